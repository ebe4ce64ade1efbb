/- Fa; Fb; Fc; Fd. -/
import Derived.Test.YtaffplmfnincfaaGreatDoorVrVv
import Derived.Test.YtaffplmfnincfaaGreatDoorVpVw
import Derived.Laws.DeepStrings4
import Derived.LoopN
/- The document's Digits. -/
namespace Go.Proofs.YtaffplmfnincfaaGreatDoor
set_option linter.unusedVariables false
open Go.RowKit
attribute [local go_sem ↓] Go.wp_at_zero Go.wp_at_succ
/-- The ten digits. -/
def B10 : ByteArray := ⟨#[48, 49, 50, 51, 52, 53, 54, 55, 56, 57]⟩
theorem b10_at (n : Nat) (h : n < 10) : B10.extract n (n + 1) = bOf [48 + (n : Int)] := by
  have : n = 0 ∨ n = 1 ∨ n = 2 ∨ n = 3 ∨ n = 4 ∨ n = 5 ∨ n = 6 ∨ n = 7 ∨ n = 8 ∨ n = 9 := by omega
  rcases this with rfl | rfl | rfl | rfl | rfl | rfl | rfl | rfl | rfl | rfl <;> rfl
theorem b10_run (n : Nat) (h : n < 10) (W : World) : (Instr.slice 9 (.string ⟨#[48, 49, 50, 51, 52, 53, 54, 55, 56, 57]⟩) (some (.int .i64 (n : Int))) (some (.int .i64 ((n : Int) + 1))) none).run Tryz.prog W = .ok (.string (bOf [48 + (n : Int)])) W := by
  have e := run_slice_string_if (P := Tryz.prog) (w := W) 9 B10 .i64 .i64 (n : Int) ((n : Int) + 1) Tryz.underlying9
  rw [if_pos ⟨by omega, by show (n : Int) + 1 ≤ 10; omega⟩, if_pos ⟨by omega, by omega⟩] at e
  have e2 : ((n : Int) + 1).toNat = n + 1 := by omega
  rw [e2, Int.toNat_natCast, b10_at n h] at e
  exact e
set_option maxRecDepth 100000 in
set_option maxHeartbeats 1000000 in
theorem rdigits_any : ∀ (n : Nat) (w : World), n ≤ 1000000000000000 → Calls Tryz.prog 267 #[.int .i64 (n : Int)] w fun e w' => e = .returned (.string (bOf (dec n))) ∧ Below w.heap.size w w' := by
  intro n
  induction n using Nat.strongRecOn with
  | _ n ih =>
    intro w hn
    by_cases h : n < 10
    · have hr := fun W => b10_run n h W
      have e : bOf (dec n) = bOf [48 + (n : Int)] := by rw [dec_lt h]
      rw [e]
      generalize bOf [48 + (n : Int)] = D at *
      have hi : (n : Int) < 10 := by omega
      clear ih e h
      go_enter Tryz.func267, Tryz.ntmps267
      go_wp2
      go_ret
      exact ⟨rfl, Below.refl _ _⟩
    · have hq := ih (n / 10) (by omega)
      obtain ⟨q, eq'⟩ : ∃ q, Hid (q = n / 10) := ⟨_, rfl⟩
      obtain ⟨r, er'⟩ : ∃ r, Hid (r = n % 10) := ⟨_, rfl⟩
      have eqi : (n : Int) / 10 = (q : Int) := by have := eq'.out; omega
      have eri : (n : Int) % 10 = (r : Int) := by have := er'.out; omega
      have hrb : r < 10 := by have := er'.out; omega
      have e : bOf (dec n) = bOf (dec q) ++ bOf [48 + (r : Int)] := by rw [dec_ge (by omega), bOf_append, eq'.out, er'.out]
      rw [e]
      rw [← eq'.out] at hq
      have hlen : (bOf (dec q)).size ≤ 16 := by rw [bOf_size]; exact dec_len 15 q (by have := eq'.out; omega)
      have hlen2 : (bOf [48 + (r : Int)]).size ≤ 1 := by rw [bOf_size]; exact Nat.le_refl 1
      have hs1 : ¬ ((bOf (dec q)).size + (bOf [48 + (r : Int)]).size > 9223372036854775807) := by omega
      have hs2 : (bOf (dec q)).size + (bOf [48 + (r : Int)]).size ≤ 9223372036854775807 := by omega
      have hcat := fun W : World => run_string_add_sum (P := Tryz.prog) W (bOf (dec q)) (bOf [48 + (r : Int)]) hs2
      have hqb : q ≤ 1000000000000000 := by have := eq'.out; omega
      have hr := fun W => b10_run r hrb W
      generalize bOf (dec q) = D1 at *
      generalize bOf [48 + (r : Int)] = D2 at *
      have hi : ¬ (n : Int) < 10 := by omega
      have hw1 : IntKind.i64.wrap ((r : Int) + 1) = (r : Int) + 1 := by rw [IntKind.wrap_i64]; omega
      have hwq : IntKind.i64.wrap (q : Int) = (q : Int) := by rw [IntKind.wrap_i64]; omega
      have etm : (n : Int).tmod 10 = (r : Int) := by rw [Int.tmod_eq_emod_of_nonneg (by omega)]; exact eri
      have hB : Below w.heap.size w w.drew := (Below.refl _ _).drew
      clear ih e h eq' er'
      go_enter Tryz.func267, Tryz.ntmps267
      go_wp2
      go_region_held3 (fun _ => True) (trivial) (first | (go_at_call 267; with_reducible refine (hq _ hqb).mono ?_; rintro e w2 ⟨rfl, hb2⟩; replace hB := hB.trans (hb2.mono hB.size)))
      all_goals
        go_wp2
        go_ret
        exact ⟨rfl, hB⟩
end Go.Proofs.YtaffplmfnincfaaGreatDoor
/- The document's Print. -/
namespace Go.Proofs.YtaffplmfnincfaaGreatDoor
set_option linter.unusedVariables false
open Go.RowKit
attribute [local go_sem ↓] Go.wp_at_zero Go.wp_at_succ
/-- A text's byte. -/
theorem idx_run (l : List Int) (k : Nat) (c : Int) (hk : l[k]? = some c) (hc : 0 ≤ c ∧ c ≤ 255) (W : World) : (Instr.index 9 (.string (bOf l)) (.int .i64 (k : Int))).run Tryz.prog W = .ok (.int .u8 c) W := by
  obtain ⟨hlt, e⟩ := List.getElem?_eq_some_iff.1 hk
  rw [run_index_string (P := Tryz.prog) W 9 (bOf l) .i64 (k : Int) Tryz.underlying9]
  have hs : (bOf l).size = l.length := bOf_size l
  rw [dif_pos ⟨by omega, by rw [hs]; omega⟩]
  congr 2
  have e2 : (bOf l)[((k : Int)).toNat]'(by rw [hs]; omega) = UInt8.ofNat c.toNat := by
    show (u8s l).toArray[((k : Int)).toNat]'(by simp [u8s]; omega) = _
    simp [u8s, e]
  rw [e2]
  show ((c.toNat % 256 : Nat) : Int) = c
  omega
theorem ext_run (l : List Int) (k : Nat) : (bOf l).extract 0 k = bOf (l.take k) := by
  apply ByteArray.ext
  rw [ByteArray.data_extract]
  apply Array.ext'
  rw [Array.toList_extract, List.extract_eq_take_drop]
  simp [bOf, u8s, List.map_take]
set_option maxRecDepth 100000 in
set_option maxHeartbeats 1000000 in
theorem rprint_pos (N : Nat) (h2 : N ≤ 1000000000000000) (w : World) : Calls Tryz.prog 248 #[vlV ⟨1, (N : Int)⟩] w fun e w' => e = .returned (.string (txtS ⟨1, (N : Int)⟩)) ∧ Below w.heap.size w w' := by
  have ha := vlNew w ⟨1, (N : Int)⟩
  have hB : Below (w.alloc (vlO ⟨1, (N : Int)⟩)).heap.size (w.alloc (vlO ⟨1, (N : Int)⟩)) (w.alloc (vlO ⟨1, (N : Int)⟩)) := Below.refl _ _
  have hi := fun W => ris_any ⟨1, (N : Int)⟩ W
  rw [isB_of (show IsV ⟨1, (N : Int)⟩ from by have := num_isV (N : Int); rw [num_in (by omega) (by omega)] at this; exact this)] at hi
  obtain ⟨q, hq⟩ : ∃ q, Hid (q = N / 1000) := ⟨_, rfl⟩
  obtain ⟨r, hr⟩ : ∃ r, Hid (r = N % 1000) := ⟨_, rfl⟩
  have eq : (N : Int) / 1000 = (q : Int) := by have := hq.out; omega
  have er : (N : Int) % 1000 = (r : Int) := by have := hr.out; omega
  have eqt : (N : Int).tdiv 1000 = (q : Int) := by rw [Int.tdiv_eq_ediv_of_nonneg (by omega)]; exact eq
  have ert : (N : Int).tmod 1000 = (r : Int) := by rw [Int.tmod_eq_emod_of_nonneg (by omega)]; exact er
  have hqb : q ≤ 1000000000000 := by have := hq.out; omega
  have hrb : r < 1000 := by have := hr.out; omega
  have hwq : IntKind.i64.wrap (q : Int) = (q : Int) := by rw [IntKind.wrap_i64]; omega
  have hwr : IntKind.i64.wrap (1000 + (r : Int)) = 1000 + (r : Int) := by rw [IntKind.wrap_i64]; omega
  have htx : txtS ⟨1, (N : Int)⟩ = bOf (dec q) ++ bOf (tail r) := by
    unfold txtS
    have hn : ¬ (N : Int) < 0 := by omega
    simp only [txt, hn, if_false, if_true]
    rw [txtN, bOf_append, Int.natAbs_natCast, ← hq.out, ← hr.out]
  rw [htx]
  have hf1 : ∀ W, Calls Tryz.prog 267 #[.int .i64 (q : Int)] W fun e w' => e = .returned (.string (bOf (dec q))) ∧ Below W.heap.size W w' := fun W => rdigits_any q W (by omega)
  have hD1 : (bOf (dec q)).size ≤ 13 := by rw [bOf_size]; exact dec_len 12 q (by omega)
  have hn0 : ¬ (N : Int) < 0 := by omega
  by_cases hr0 : r = 0
  · subst hr0
    have et : bOf (dec q) ++ bOf (tail 0) = bOf (dec q) := by apply ByteArray.ext; simp [tail, bOf, u8s]
    rw [et]
    generalize bOf (dec q) = D1 at *
    clear htx et hr hq
    unfold vlV at *
    go_enter Tryz.func248, Tryz.ntmps248
    go_wp2_with (first | (go_at_call 80; with_reducible refine (hi _).mono ?_; rintro e w2 ⟨rfl, hb2⟩; replace hB := hB.trans (hb2.mono hB.size); obtain ⟨a0, a1⟩ := (ha.grow hB).cells) | (go_at_call 267; with_reducible refine (hf1 _).mono ?_; rintro e w2 ⟨rfl, hb2⟩; replace hB := hB.trans (hb2.mono hB.size); obtain ⟨a0, a1⟩ := (ha.grow hB).cells))
    go_ret
    exact ⟨rfl, (bW0 w _).trans (hB.mono (by simp))⟩
  · have hf2 : ∀ W, Calls Tryz.prog 267 #[.int .i64 (1000 + (r : Int))] W fun e w' => e = .returned (.string (bOf (49 :: digs3 r))) ∧ Below W.heap.size W w' := fun W => by
      have e : (1000 + (r : Int)) = ((1000 + r : Nat) : Int) := by omega
      rw [← dec_three hrb, e]; exact rdigits_any (1000 + r) W (by omega)
    have hsl := cut1 49 (digs3 r)
    have hsz4 : (bOf (49 :: digs3 r)).size = 4 := by rw [bOf_size]; rfl
    have hsz : (bOf (digs3 r)).size = 3 := by rw [bOf_size]; rfl
    rw [hsz4] at hsl
    have et : bOf (dec q) ++ bOf (tail r) = (bOf (dec q) ++ ⟨#[46]⟩) ++ bOf (frac r) := by rw [tail, if_neg hr0, bOf_cons, ← ByteArray.append_assoc]; rfl
    rw [et]
    have hne : ((r : Int) == 0) = false := by simpa using hr0
    have hd1 : Hid (digs3 r = [48 + ((r / 100 : Nat) : Int), 48 + ((r / 10 % 10 : Nat) : Int), 48 + ((r % 10 : Nat) : Int)]) := rfl
    obtain ⟨x, hx⟩ : ∃ x, Hid (x = 48 + ((r / 100 : Nat) : Int)) := ⟨_, rfl⟩
    obtain ⟨y, hy⟩ : ∃ x, Hid (x = 48 + ((r / 10 % 10 : Nat) : Int)) := ⟨_, rfl⟩
    obtain ⟨z, hz⟩ : ∃ x, Hid (x = 48 + ((r % 10 : Nat) : Int)) := ⟨_, rfl⟩
    have hd2 : Hid (digs3 r = [x, y, z]) := by rw [hx.out, hy.out, hz.out]; exact hd1
    have i3 : ∀ W, (Instr.index 9 (.string (bOf (digs3 r))) (.int .i64 2)).run Tryz.prog W = .ok (.int .u8 z) W := fun W => by
      rw [hd2.out]; exact idx_run [x, y, z] 2 z rfl (by have := hz.out; omega) W
    have i2 : ∀ W, (Instr.index 9 (.string (bOf [x, y])) (.int .i64 1)).run Tryz.prog W = .ok (.int .u8 y) W := fun W => idx_run [x, y] 1 y rfl (by have := hy.out; omega) W
    have i1 : ∀ W, (Instr.index 9 (.string (bOf [x])) (.int .i64 0)).run Tryz.prog W = .ok (.int .u8 x) W := fun W => idx_run [x] 0 x rfl (by have := hx.out; omega) W
    have s3 : (bOf (digs3 r)).extract 0 2 = bOf [x, y] := by rw [hd2.out]; exact ext_run [x, y, z] 2
    have s2 : (bOf [x, y]).extract 0 1 = bOf [x] := ext_run [x, y] 1
    have z2 : (bOf [x, y]).size = 2 := by rw [bOf_size]; rfl
    have z1 : (bOf [x]).size = 1 := by rw [bOf_size]; rfl
    by_cases c1 : r % 10 = 0
    · have ez : (z == 48) = true := by have := hz.out; simp; omega
      by_cases c2 : r % 100 = 0
      · have ey : (y == 48) = true := by have := hy.out; simp; omega
        have ex : (x == 48) = false := by have := hx.out; simp; omega
        have ef : bOf (frac r) = bOf [x] := by rw [frac, if_pos c2, hx.out]
        rw [ef]
        generalize bOf (dec q) = D1 at *
        generalize bOf (49 :: digs3 r) = D4 at *
        generalize bOf (digs3 r) = E3 at *
        generalize bOf [x, y] = E2 at *
        generalize bOf [x] = E1 at *
        clear htx et hr hq hd1 hd2 hx hy hz c1 c2 ef hr0
        unfold vlV at *
        go_enter Tryz.func248, Tryz.ntmps248
        go_wp2_with (first | (go_at_call 80; with_reducible refine (hi _).mono ?_; rintro e w2 ⟨rfl, hb2⟩; replace hB := hB.trans (hb2.mono hB.size); obtain ⟨a0, a1⟩ := (ha.grow hB).cells) | (go_at_call 267; with_reducible refine (hf1 _).mono ?_; rintro e w2 ⟨rfl, hb2⟩; replace hB := hB.trans (hb2.mono hB.size); obtain ⟨a0, a1⟩ := (ha.grow hB).cells) | (go_at_call 267; with_reducible refine (hf2 _).mono ?_; rintro e w2 ⟨rfl, hb2⟩; replace hB := hB.trans (hb2.mono hB.size); obtain ⟨a0, a1⟩ := (ha.grow hB).cells))
        refine wp_loop_rounds 3 ?_
        rw [rounds_succ]
        go_wp2
        rw [rounds_succ]
        go_wp2
        rw [rounds_succ]
        go_wp2
        go_ret
        exact ⟨rfl, (bW0 w _).trans (hB.mono (by simp))⟩
      · have ey : (y == 48) = false := by have := hy.out; simp; omega
        have ef : bOf (frac r) = bOf [x, y] := by rw [frac, if_neg c2, if_pos c1, hx.out, hy.out]
        rw [ef]
        generalize bOf (dec q) = D1 at *
        generalize bOf (49 :: digs3 r) = D4 at *
        generalize bOf (digs3 r) = E3 at *
        generalize bOf [x, y] = E2 at *
        clear htx et hr hq hd1 hd2 hx hy hz c1 c2 ef hr0 i1 s2 z1
        unfold vlV at *
        go_enter Tryz.func248, Tryz.ntmps248
        go_wp2_with (first | (go_at_call 80; with_reducible refine (hi _).mono ?_; rintro e w2 ⟨rfl, hb2⟩; replace hB := hB.trans (hb2.mono hB.size); obtain ⟨a0, a1⟩ := (ha.grow hB).cells) | (go_at_call 267; with_reducible refine (hf1 _).mono ?_; rintro e w2 ⟨rfl, hb2⟩; replace hB := hB.trans (hb2.mono hB.size); obtain ⟨a0, a1⟩ := (ha.grow hB).cells) | (go_at_call 267; with_reducible refine (hf2 _).mono ?_; rintro e w2 ⟨rfl, hb2⟩; replace hB := hB.trans (hb2.mono hB.size); obtain ⟨a0, a1⟩ := (ha.grow hB).cells))
        refine wp_loop_rounds 2 ?_
        rw [rounds_succ]
        go_wp2
        rw [rounds_succ]
        go_wp2
        go_ret
        exact ⟨rfl, (bW0 w _).trans (hB.mono (by simp))⟩
    · have ez : (z == 48) = false := by have := hz.out; simp; omega
      have ef : bOf (frac r) = bOf (digs3 r) := by rw [frac, if_neg (by omega), if_neg c1]; rfl
      rw [ef]
      generalize bOf (dec q) = D1 at *
      generalize bOf (49 :: digs3 r) = D4 at *
      generalize bOf (digs3 r) = E3 at *
      clear htx et hr hq hd1 hd2 hx hy hz c1 ef hr0 i1 i2 s2 s3 z1 z2
      unfold vlV at *
      go_enter Tryz.func248, Tryz.ntmps248
      go_wp2_with (first | (go_at_call 80; with_reducible refine (hi _).mono ?_; rintro e w2 ⟨rfl, hb2⟩; replace hB := hB.trans (hb2.mono hB.size); obtain ⟨a0, a1⟩ := (ha.grow hB).cells) | (go_at_call 267; with_reducible refine (hf1 _).mono ?_; rintro e w2 ⟨rfl, hb2⟩; replace hB := hB.trans (hb2.mono hB.size); obtain ⟨a0, a1⟩ := (ha.grow hB).cells) | (go_at_call 267; with_reducible refine (hf2 _).mono ?_; rintro e w2 ⟨rfl, hb2⟩; replace hB := hB.trans (hb2.mono hB.size); obtain ⟨a0, a1⟩ := (ha.grow hB).cells))
      refine wp_loop_rounds 1 ?_
      rw [rounds_succ]
      go_wp2
      go_ret
      exact ⟨rfl, (bW0 w _).trans (hB.mono (by simp))⟩
set_option maxRecDepth 100000 in
set_option maxHeartbeats 1000000 in
theorem rprint_any (v : Vl) (w : World) : Calls Tryz.prog 248 #[vlV v] w fun e w' => e = .returned (.string (prS v)) ∧ Below w.heap.size w w' := by
  have ha := vlNew w v
  have hB : Below (w.alloc (vlO v)).heap.size (w.alloc (vlO v)) (w.alloc (vlO v)) := Below.refl _ _
  have hi := fun W => ris_any v W
  by_cases hv : IsV v
  · rw [isB_of hv] at hi
    have e : prS v = txtS v := by rw [prS, if_pos hv]
    rw [e]; clear e
    rcases hv.cases with ⟨n, rfl, h1, h2⟩ | rfl | rfl | rfl | rfl
    · by_cases hn : n < 0
      · obtain ⟨N, hN⟩ : ∃ N : Nat, Hid (-n = (N : Int)) := ⟨n.natAbs, show -n = _ by omega⟩
        have hwn : IntKind.i64.wrap (-n) = (N : Int) := by rw [IntKind.wrap_i64]; have := hN.out; omega
        have hen := hN.out
        have hp := fun W => rprint_pos N (by have := hN.out; omega) W
        have hnm := fun W => rnum_any (N : Int) W
        rw [num_in (by omega) (by have := hN.out; omega)] at hnm
        have hT : txtS ⟨1, n⟩ = bOf [45] ++ txtS ⟨1, (N : Int)⟩ := by
          have hn0 : ¬ (N : Int) < 0 := by omega
          have e1 : n.natAbs = N := by have := hN.out; omega
          unfold txtS
          simp only [txt, hn, hn0, if_true, if_false]
          rw [bOf_cons, e1, Int.natAbs_natCast]
        have hsT : (txtS ⟨1, (N : Int)⟩).size ≤ 18 := by
          unfold txtS; rw [bOf_size]; exact txt_len (show IsV ⟨1, (N : Int)⟩ from by have := num_isV (N : Int); rw [num_in (by omega) (by have := hN.out; omega)] at this; exact this)
        rw [hT]
        have e45 : bOf [45] = ⟨#[45]⟩ := rfl
        rw [e45]
        generalize txtS ⟨1, (N : Int)⟩ = T at *
        clear hv hT hN e45
        unfold vlV at *
        go_enter Tryz.func248, Tryz.ntmps248
        go_wp2_with (first | (go_at_call 80; with_reducible refine (hi _).mono ?_; rintro e w2 ⟨rfl, hb2⟩; replace hB := hB.trans (hb2.mono hB.size); obtain ⟨a0, a1⟩ := (ha.grow hB).cells) | (go_at_call 20; with_reducible refine (hnm _).mono ?_; rintro e w2 ⟨rfl, hb2⟩; replace hB := hB.trans (hb2.mono hB.size); obtain ⟨a0, a1⟩ := (ha.grow hB).cells) | (go_at_call 248; with_reducible refine (hp _).mono ?_; rintro e w2 ⟨rfl, hb2⟩; replace hB := hB.trans (hb2.mono hB.size); obtain ⟨a0, a1⟩ := (ha.grow hB).cells))
        go_ret
        exact ⟨rfl, (bW0 w _).trans (hB.mono (by simp))⟩
      · obtain ⟨N, rfl⟩ : ∃ N : Nat, n = (N : Int) := ⟨n.toNat, by omega⟩
        exact rprint_pos N (by omega) w
    all_goals
      clear hv
      unfold vlV at *
      go_enter Tryz.func248, Tryz.ntmps248
      go_wp2_with (first | (go_at_call 80; with_reducible refine (hi _).mono ?_; rintro e w2 ⟨rfl, hb2⟩; replace hB := hB.trans (hb2.mono hB.size); obtain ⟨a0, a1⟩ := (ha.grow hB).cells))
      go_ret
      exact ⟨rfl, (bW0 w _).trans (hB.mono (by simp))⟩
  · have e : prS v = ⟨#[]⟩ := by rw [prS, if_neg hv]
    rw [e]; clear e
    have e2 : isB v = false := decide_eq_false hv
    rw [e2] at hi
    clear hv e2
    unfold vlV at *
    go_enter Tryz.func248, Tryz.ntmps248
    go_wp2_with (first | (go_at_call 80; with_reducible refine (hi _).mono ?_; rintro e w2 ⟨rfl, hb2⟩; replace hB := hB.trans (hb2.mono hB.size); obtain ⟨a0, a1⟩ := (ha.grow hB).cells))
    go_ret
    exact ⟨rfl, (bW0 w _).trans (hB.mono (by simp))⟩
end Go.Proofs.YtaffplmfnincfaaGreatDoor
/- The document's Parse: the mathematics. -/
namespace Go.Proofs.YtaffplmfnincfaaGreatDoor
set_option linter.unusedVariables false
def bytes (s : ByteArray) : List Int := s.data.toList.map fun c => (c.toNat : Int)
theorem bOf_bytes (s : ByteArray) : bOf (bytes s) = s := by
  apply ByteArray.ext
  apply Array.ext'
  show (u8s (bytes s)).toArray.toList = _
  rw [List.toList_toArray, u8s, bytes, List.map_map]
  refine (List.map_congr_left (g := id) fun c _ => ?_).trans (List.map_id _)
  show UInt8.ofNat ((c.toNat : Int)).toNat = c
  rw [Int.toNat_natCast]; exact UInt8.ofNat_toNat
theorem bytes_byts (s : ByteArray) : Byts (bytes s) := fun c hc => by
  obtain ⟨x, _, rfl⟩ := List.mem_map.1 hc
  have := x.toNat_lt
  omega
theorem bytes_len (s : ByteArray) : (bytes s).length = s.size := by rw [bytes, List.length_map]; exact ba_len s
theorem bytes_txt {u : Vl} {s : ByteArray} (h : txtS u = s) : bytes s = txt u :=
  bOf_inj (bytes_byts s) (txt_byts u) ((bOf_bytes s).trans h.symm)
/-- How often ten times. -/
def ten (left m : Int) : Int := if left < 0 then 1000 * m else if left = 0 then m else if left = 1 then 10 * m else if left = 2 then 100 * m else 1000 * m
def sgd (s : ByteArray) (X : Int) : Int := if (bytes s).head? = some 45 then -X else X
theorem par_num {s : ByteArray} {n : Int} (h1 : -1000000000000000 ≤ n) (h2 : n ≤ 1000000000000000) (h : txtS ⟨1, n⟩ = s) :
    ∃ m left, runs 0 0 (-1) (bytes s) = some (m, left) ∧ n = sgd s (ten left m) ∧ ten left m ≤ 1000000000000000 := by
  have e := bytes_txt h
  obtain ⟨m, left, h3, h4⟩ := runs_txt h1 h2
  have ht : ten left m = (n.natAbs : Int) := by
    rcases h4 with ⟨rfl, h⟩ | ⟨rfl, h⟩ | ⟨rfl, h⟩ | ⟨rfl, h⟩ <;> simp [ten] <;> omega
  refine ⟨m, left, by rw [e]; exact h3, ?_, by omega⟩
  rw [ht, sgd, e]
  by_cases hn : n < 0
  · have e2 : (txt ⟨1, n⟩).head? = some 45 := by simp [txt, hn]
    rw [if_pos e2]; omega
  · obtain ⟨c, r, e1, h5, h6⟩ := txtN_head n.natAbs
    have e2 : ¬ (txt ⟨1, n⟩).head? = some 45 := by simp [txt, hn, e1]; omega
    rw [if_neg e2]; omega
def SpNo (s : ByteArray) : Prop := txtS nul ≠ s ∧ txtS nan ≠ s ∧ txtS pls ≠ s ∧ txtS mns ≠ s
theorem par_long {s : ByteArray} (h : 20 < s.size) : parV s = zer ∧ parE s = 80 := par_no fun v hv e => by
  have := txt_len hv
  rw [← bytes_txt e, bytes_len] at this
  omega
theorem par_gen {s : ByteArray} (hs : SpNo s) (h : ∀ n : Int, -1000000000000000 ≤ n → n ≤ 1000000000000000 → txtS ⟨1, n⟩ ≠ s) : parV s = zer ∧ parE s = 80 := par_no fun v hv e => by
  rcases hv.cases with ⟨n, rfl, h1, h2⟩ | rfl | rfl | rfl | rfl
  · exact h n h1 h2 e
  · exact hs.1 e
  · exact hs.2.1 e
  · exact hs.2.2.1 e
  · exact hs.2.2.2 e
theorem par_none {s : ByteArray} (hs : SpNo s) (h : runs 0 0 (-1) (bytes s) = none) : parV s = zer ∧ parE s = 80 := par_gen hs fun n h1 h2 e => by
  obtain ⟨m, left, h3, _⟩ := par_num h1 h2 e
  rw [h] at h3; cases h3
theorem par_big {s : ByteArray} {m left : Int} (hs : SpNo s) (h : runs 0 0 (-1) (bytes s) = some (m, left)) (hb : 1000000000000000 < ten left m) : parV s = zer ∧ parE s = 80 := par_gen hs fun n h1 h2 e => by
  obtain ⟨m', left', h3, _, h4⟩ := par_num h1 h2 e
  rw [h] at h3; simp at h3; obtain ⟨rfl, rfl⟩ := h3; omega
theorem par_ne {s : ByteArray} {m left : Int} (hs : SpNo s) (h : runs 0 0 (-1) (bytes s) = some (m, left)) (hn : txtS ⟨1, sgd s (ten left m)⟩ ≠ s) : parV s = zer ∧ parE s = 80 := par_gen hs fun n h1 h2 e => by
  obtain ⟨m', left', h3, h4, _⟩ := par_num h1 h2 e
  rw [h] at h3; simp at h3; obtain ⟨rfl, rfl⟩ := h3
  rw [h4] at e; exact hn e
theorem stp_in {i : Nat} {n left c m r : Int} (h : stp i n left c = some (m, r)) (hc : 0 ≤ c ∧ c ≤ 255) (hn : 0 ≤ n ∧ n ≤ 10000000000000009) (hl : -1 ≤ left ∧ left ≤ 3) : (0 ≤ m ∧ m ≤ 10000000000000009) ∧ (-1 ≤ r ∧ r ≤ 3) := by
  unfold stp at h
  split at h
  · simp at h; omega
  · split at h
    · simp at h; omega
    · split at h
      · simp at h; obtain ⟨rfl, rfl⟩ := h
        refine ⟨by omega, ?_⟩
        split <;> omega
      · cases h
/-- One byte more. -/
theorem runs_snoc {l : List Int} {k : Nat} {c n left : Int} (hk : l[k]? = some c) (h : runs 0 0 (-1) (l.take k) = some (n, left)) : runs 0 0 (-1) (l.take (k + 1)) = stp k n left c := by
  obtain ⟨hlt, e⟩ := List.getElem?_eq_some_iff.1 hk
  have e2 : l.take (k + 1) = l.take k ++ [c] := by rw [List.take_add_one, hk]; rfl
  rw [e2, runs_append _ _ _ _ _ _ _ h]
  have e3 : 0 + (l.take k).length = k := by simp; omega
  rw [e3, runs]
  cases stp k n left c with
  | none => rfl
  | some p => rfl
theorem runs_dead {l : List Int} {k : Nat} (h : runs 0 0 (-1) (l.take k) = none) : runs 0 0 (-1) l = none := by
  have key : ∀ (x : List Int) (i : Nat) (n left : Int) (y : List Int), runs i n left x = none → runs i n left (x ++ y) = none := by
    intro x
    induction x with
    | nil => intro i n left y h; cases h
    | cons c l ih =>
      intro i n left y h
      simp only [runs, List.cons_append] at h ⊢
      cases e : stp i n left c with
      | none => rfl
      | some p => rw [e] at h; exact ih _ _ _ _ h
  have := key (l.take k) 0 0 (-1) (l.drop k) h
  rwa [List.take_append_drop] at this
theorem row4 (w : World) (a b c d : Vl) : Vls (w.alloc (.cells #[.int .i64 a.kind, .int .i64 a.n, .int .i64 b.kind, .int .i64 b.n, .int .i64 c.kind, .int .i64 c.n, .int .i64 d.kind, .int .i64 d.n] 34)) (.slice (some ⟨w.heap.size, 0, none⟩) 4 4) [a, b, c, d] := by
  refine ⟨_, _, rfl, .inr ⟨_, _, rfl, fun t ht => ?_⟩⟩
  have h : (w.alloc (.cells #[.int .i64 a.kind, .int .i64 a.n, .int .i64 b.kind, .int .i64 b.n, .int .i64 c.kind, .int .i64 c.n, .int .i64 d.kind, .int .i64 d.n] 34)).heap[w.heap.size]? = some (.cells #[.int .i64 a.kind, .int .i64 a.n, .int .i64 b.kind, .int .i64 b.n, .int .i64 c.kind, .int .i64 c.n, .int .i64 d.kind, .int .i64 d.n] 34) := by
    show (w.heap.push _)[w.heap.size]? = _; simp
  have ht5 : t = 0 ∨ t = 1 ∨ t = 2 ∨ t = 3 := by simp at ht; omega
  unfold VAt World.cell?
  rw [h]
  rcases ht5 with rfl | rfl | rfl | rfl <;> simp
end Go.Proofs.YtaffplmfnincfaaGreatDoor
/- The document's Parse. -/
namespace Go.Proofs.YtaffplmfnincfaaGreatDoor
set_option linter.unusedVariables false
open Go.RowKit
attribute [local go_sem ↓] Go.wp_at_zero Go.wp_at_succ
theorem knum_b (v : Vl) (w : World) : Calls Tryz.prog 120 #[vlV v] w fun e w' => e = .returned (.bool (v.kind == 1)) ∧ Below w.heap.size w w' := by
  have ha := vlNew w v
  have hB : Below (w.alloc (vlO v)).heap.size (w.alloc (vlO v)) (w.alloc (vlO v)) := Below.refl _ _
  obtain ⟨a0, a1⟩ := ha.cells
  unfold vlV at *
  go_enter Tryz.func120, Tryz.ntmps120
  go_wp2
  go_ret
  exact ⟨rfl, (bW0 w _).trans (hB.mono (by simp))⟩
theorem heads (s : ByteArray) : (s.toList = [] ∧ ∀ X, sgd s X = X) ∨ (∃ c : Int, ¬ s.toList = [] ∧ (∀ W, (Instr.index 9 (.string s) (.int .i64 0)).run Tryz.prog W = .ok (.int .u8 45) W) ∧ c = 45 ∧ ∀ X, sgd s X = -X) ∨ (∃ c : Int, ¬ s.toList = [] ∧ (∀ W, (Instr.index 9 (.string s) (.int .i64 0)).run Tryz.prog W = .ok (.int .u8 c) W) ∧ (c == 45) = false ∧ ∀ X, sgd s X = X) := by
  cases e : bytes s with
  | nil =>
    left
    refine ⟨?_, fun X => by rw [sgd, e]; simp⟩
    have := congrArg List.length e
    rw [bytes_len] at this
    rw [ByteArray.toList_eq]
    apply List.eq_nil_of_length_eq_zero
    rw [ba_len]; simpa using this
  | cons c l =>
    right
    have hne : ¬ s.toList = [] := fun h => by
      rw [ByteArray.toList_eq] at h
      have := congrArg List.length e
      rw [bytes_len, ← ba_len, h] at this
      simp at this
    have hix : ∀ W, (Instr.index 9 (.string s) (.int .i64 0)).run Tryz.prog W = .ok (.int .u8 c) W := fun W => by
      have := idx_run (bytes s) 0 c (by rw [e]; rfl) (bytes_byts s c (by rw [e]; simp)) W
      rwa [bOf_bytes] at this
    by_cases h : c = 45
    · exact .inl ⟨c, hne, fun W => by rw [← h]; exact hix W, h, fun X => by rw [sgd, e]; simp [h]⟩
    · exact .inr ⟨c, hne, hix, by simpa using h, fun X => by rw [sgd, e]; simp [h]⟩
theorem txtS_ne (Z : Int) : ¬ (txtS ⟨1, Z⟩).toList = [] := fun h => by
  rw [ByteArray.toList_eq] at h
  have h1 : (txtS ⟨1, Z⟩).size = 0 := by rw [← ba_len, h]; rfl
  unfold txtS at h1
  rw [bOf_size] at h1
  obtain ⟨c, r, e1, _⟩ := txtN_head Z.natAbs
  by_cases hn : Z < 0 <;> simp [txt, hn, e1] at h1
theorem num_kind {n : Int} (h : ¬ (-1000000000000000 ≤ n ∧ n ≤ 1000000000000000)) : ((num n).kind == 1) = false := by
  unfold num
  split
  · rfl
  · split
    · rfl
    · omega
set_option maxRecDepth 100000 in
set_option maxHeartbeats 4000000 in
theorem rparse_any (s : ByteArray) (w : World) (hs : s.size ≤ 1000000) : Calls Tryz.prog 213 #[.string s] w fun e w' => e = .returned (.tuple #[vlV (parV s), .int .i64 (parE s)]) ∧ Below w.heap.size w w' := by
  have hr := vlNew w zer
  have hB : Below (w.alloc (vlO zer)).heap.size (w.alloc (vlO zer)) (w.alloc (vlO zer)) := Below.refl _ _
  obtain ⟨l, hl⟩ : ∃ l, Hid (l = [nul, nan, pls, mns]) := ⟨_, rfl⟩
  have hisv : Hid (∀ v ∈ l, IsV v) := fun v hv => by
    rw [hl.out] at hv
    simp only [List.mem_cons, List.not_mem_nil, or_false] at hv
    rcases hv with rfl | rfl | rfl | rfl
    · exact nul_isV
    · exact nan_isV
    · exact pls_isV
    · exact mns_isV
  have hpr : Hid (∀ W, ∀ v, IsV v → Calls Tryz.prog 248 #[.agg #[.int .i64 v.kind, .int .i64 v.n]] W fun e w' => e = .returned (.string (txtS v)) ∧ Below W.heap.size W w') := fun W v hv => by
    have := rprint_any v W
    rw [prS, if_pos hv] at this
    exact this
  have hlen : Hid (l.length = 4) := by rw [hl.out]; rfl
  have hspno : Hid ((∀ u ∈ l, txtS u ≠ s) → SpNo s) := fun h => ⟨h nul (by rw [hl.out]; simp), h nan (by rw [hl.out]; simp), h pls (by rw [hl.out]; simp), h mns (by rw [hl.out]; simp)⟩
  have h22 := fun W => rnull_b W
  have h24 := fun W => rnan_b W
  have h26 := fun W => rplus_b W
  have h28 := fun W => rminus_b W
  have hrow : Hid (∀ W : World, Vls (W.alloc (.cells #[.int .i64 nul.kind, .int .i64 nul.n, .int .i64 nan.kind, .int .i64 nan.n, .int .i64 pls.kind, .int .i64 pls.n, .int .i64 mns.kind, .int .i64 mns.n] 34)) (.slice (some ⟨W.heap.size, 0, none⟩) 4 4) l) := fun W => by
    rw [hl.out]; exact row4 W nul nan pls mns
  clear hl
  obtain ⟨R, hR⟩ : ∃ R, Hid (R = parV s) := ⟨_, rfl⟩
  obtain ⟨E, hE⟩ : ∃ E, Hid (E = parE s) := ⟨_, rfl⟩
  rw [← hR.out, ← hE.out]
  unfold vlV at h22 h24 h26 h28
  go_enter Tryz.func213, Tryz.ntmps213
  go_wp2_with (first | (go_at_call 82; with_reducible refine (h22 _).mono ?_; rintro e w2 ⟨rfl, hb2⟩; replace hB := hB.trans (hb2.mono hB.size)) | (go_at_call 83; with_reducible refine (h24 _).mono ?_; rintro e w2 ⟨rfl, hb2⟩; replace hB := hB.trans (hb2.mono hB.size)) | (go_at_call 40; with_reducible refine (h26 _).mono ?_; rintro e w2 ⟨rfl, hb2⟩; replace hB := hB.trans (hb2.mono hB.size)) | (go_at_call 41; with_reducible refine (h28 _).mono ?_; rintro e w2 ⟨rfl, hb2⟩; replace hB := hB.trans (hb2.mono hB.size)))
  have hV := hrow.out w2
  have hB1 := hB.alloc hB.size (.cells #[.int .i64 nul.kind, .int .i64 nul.n, .int .i64 nan.kind, .int .i64 nan.n, .int .i64 pls.kind, .int .i64 pls.n, .int .i64 mns.kind, .int .i64 mns.n] 34)
  clear hrow hb2 hB h22 h24 h26 h28
  generalize w2.alloc (.cells #[.int .i64 nul.kind, .int .i64 nul.n, .int .i64 nan.kind, .int .i64 nan.n, .int .i64 pls.kind, .int .i64 pls.n, .int .i64 mns.kind, .int .i64 mns.n] 34) = W1 at hV hB1 ⊢
  generalize w2.heap.size = nb at hV ⊢
  have hgl : Hid (∀ W, Below W1.heap.size W1 W → Vls W (.slice (some ⟨nb, 0, none⟩) 4 4) l) := fun W h => hV.grow h
  clear hV
  go_loopw [5] (fun i wr => ∃ k : Nat, k ≤ 4 ∧ i = .int .i64 k ∧ Hid (∀ u ∈ l.take k, txtS u ≠ s) ∧ Below W1.heap.size W1 wr) (fun i _ => 4 - (intOf i).toNat)
  case atStart => exact ⟨0, Nat.zero_le _, rfl, (fun u hu => by simp at hu), Below.refl _ _⟩
  case round =>
    obtain ⟨k, hk, rfl, hrk, hb⟩ := hrel
    have hz := hb.size
    have hBw := hB1.trans (hb.mono hB1.size)
    have hvr := (hr.grow hBw)
    have hltr := hvr.lt
    by_cases hlt : k < 4
    · have hki : (k : Int) < 4 := by omega
      have hltl : k < l.length := by rw [hlen.out]; exact hlt
      obtain ⟨a', c', e, hcs⟩ := hgl.out wr hb
      have ea : some (⟨nb, 0, none⟩ : Addr) = a' := by
        have := e; simp at this; exact this.1
      subst ea
      rcases hcs with hcs | ⟨b, o, hbo, hcs⟩
      · rw [hcs] at hltl; simp at hltl
      obtain ⟨rfl, rfl⟩ : nb = b ∧ 0 = o := by simpa using hbo
      have hcc := hcs k hltl
      rw [Nat.zero_add] at hcc
      have hccg : ∀ W, Below wr.heap.size wr W → VAt W nb (k * 2) (l.getD k zer) := fun W h => ⟨keepC hcc.1 h, keepC hcc.2 h⟩
      obtain ⟨x0, x1⟩ := hcc
      clear hcs e hbo
      have hmem : Hid (l.getD k zer ∈ l) := getD_mem l k hltl
      have htk : Hid (l.take (k + 1) = l.take k ++ [l.getD k zer]) := take_getD l k hltl
      generalize l.getD k zer = u at *
      have hiu : Hid (IsV u) := hisv.out u hmem.out
      have hp := hpr.out wr u hiu.out
      obtain ⟨TU, hTU⟩ : ∃ T, Hid (T = txtS u) := ⟨_, rfl⟩
      rw [← hTU.out] at hp
      have hbe := beq_str TU s
      clear hgl hpr
      by_cases heq : TU = s
      · have hb2 : (TU.toList == s.toList) = true := by rw [hbe]; simpa using heq
        obtain ⟨y1, y2⟩ := par_yes hiu.out (hTU.out.symm.trans heq)
        have hRu : Hid (R = u) := hR.out.trans y1
        have hE0 : Hid (E = 0) := hE.out.trans y2
        clear hbe heq y1 y2
        go_wp2_with (go_at_call 248; refine hp.mono ?_; rintro e w3 ⟨rfl, hb3⟩; have hr3 := hvr.grow hb3; obtain ⟨r0, r1⟩ := hr3.cells; obtain ⟨rf0, rf1⟩ := hr3.frozen; obtain ⟨v0, v1⟩ := hccg _ hb3)
        refine ret_cell2 (v := u) Tryz.results213 rfl (vlSet hr3) rfl ⟨by rw [hRu.out, hE0.out]; rfl, ?_⟩
        have hw3 : Below (w.alloc (vlO zer)).heap.size (w.alloc (vlO zer)) w3 := hBw.trans (hb3.mono hBw.size)
        exact belTwo _ _ ((bW0 w _).trans (hw3.mono (bW0 w _).size)) (Nat.le_refl _)
      · have hb2 : (TU.toList == s.toList) = false := by rw [hbe]; simpa using heq
        have hnew : Hid (∀ y ∈ l.take (k + 1), txtS y ≠ s) := by
          rw [htk.out]
          intro y hy
          rcases List.mem_append.1 hy with h | h
          · exact hrk.out y h
          · rw [List.mem_singleton.1 h, ← hTU.out]; exact heq
        clear hbe heq
        go_wp2_with (go_at_call 248; refine hp.mono ?_; rintro e w3 ⟨rfl, hb3⟩)
        have hb4 : Below W1.heap.size W1 w3 := hb.trans (hb3.mono hb.size)
        go_roundw
        case rel => exact ⟨k + 1, by omega, by go_num, hnew, hb4⟩
        case measure => simp [intOf]; omega
    · obtain rfl : k = 4 := by omega
      have hsp : Hid (SpNo s) := hspno.out (by have h := hrk.out; rwa [List.take_of_length_le (by rw [hlen.out]; omega)] at h)
      clear hgl hrk hspno hisv hlen
      obtain ⟨r0, r1⟩ := hvr.cells
      obtain ⟨rf0, rf1⟩ := hvr.frozen
      by_cases hlong : 20 < s.size
      · have hRz : Hid (R = zer) := hR.out.trans (par_long hlong).1
        have hEz : Hid (E = 80) := hE.out.trans (par_long hlong).2
        have hli : (20 : Int) < (s.size : Int) := by omega
        go_wp2
        refine ret_cell2 (v := zer) Tryz.results213 rfl (vlSet hvr) rfl ⟨by rw [hRz.out, hEz.out]; rfl, ?_⟩
        exact belTwo _ _ ((bW0 w _).trans (hBw.mono (bW0 w _).size)) (Nat.le_refl _)
      · have hli : ¬ (20 : Int) < (s.size : Int) := by omega
        have hblen : Hid ((bytes s).length = s.size) := bytes_len s
        have hwlt := hvr.lt
        clear hr hB1 hb hz hltr r0 r1 rf0 rf1
        go_wp2
        go_loopw [6, 7, 8] (fun n lf i wq => ∃ (k : Nat) (N L : Int), k ≤ s.size ∧ n = .int .i64 N ∧ lf = .int .i64 L ∧ i = .int .i64 k ∧ Hid (runs 0 0 (-1) ((bytes s).take k) = some (N, L)) ∧ (0 ≤ N ∧ N ≤ 10000000000000009) ∧ (-1 ≤ L ∧ L ≤ 3) ∧ wq = wr) (fun n lf i _ => s.size - (intOf i).toNat)
        case atStart => exact ⟨0, 0, -1, Nat.zero_le _, rfl, rfl, rfl, rfl, by omega, by omega, rfl⟩
        case round =>
          obtain ⟨k, N, L, hk, rfl, rfl, rfl, hru, hN, hL, rfl⟩ := hrel
          by_cases hlt : k < s.size
          · have hki : (k : Int) < (s.size : Int) := by omega
            obtain ⟨c, hc⟩ : ∃ c, Hid ((bytes s)[k]? = some c) := ⟨_, List.getElem?_eq_getElem (by rw [hblen.out]; exact hlt)⟩
            have hcb : 0 ≤ c ∧ c ≤ 255 := bytes_byts s c (List.mem_of_getElem? hc.out)
            have hix : ∀ W, (Instr.index 9 (.string s) (.int .i64 (k : Int))).run Tryz.prog W = .ok (.int .u8 c) W := fun W => by
              have := idx_run (bytes s) k c hc.out hcb W
              rwa [bOf_bytes] at this
            have hsn : Hid (runs 0 0 (-1) ((bytes s).take (k + 1)) = stp k N L c) := runs_snoc hc.out hru.out
            have hno : True := trivial
            have hwk : IntKind.i64.wrap ((k : Int) + 1) = (k : Int) + 1 := by rw [IntKind.wrap_i64]; omega
            clear hc hblen
            by_cases h45 : c = 45
            · subst h45
              by_cases hk0 : k = 0
              · have hkb : ((k : Int) == 0) = true := by simpa using hk0
                have hst : Hid (runs 0 0 (-1) ((bytes s).take (k + 1)) = some (N, L)) := hsn.out.trans (by rw [stp, if_pos ⟨rfl, hk0⟩])
                have hin := stp_in (hsn.out.symm.trans hst.out) hcb hN hL
                clear hsn hno hru hk0
                go_wp2
                go_roundw
                case rel => exact ⟨k + 1, N, L, by omega, by go_num, by go_num, by go_num, hst, hin.1, hin.2, by trivial⟩
                case measure => simp [intOf]; omega
              · have hkb : ((k : Int) == 0) = false := by simpa using hk0
                have hdd := par_none hsp.out (runs_dead (hsn.out.trans (by rw [stp, if_neg (by omega), if_neg (by omega), if_neg (by omega)])))
                have hRz : Hid (R = zer) := hR.out.trans hdd.1
                have hEz : Hid (E = 80) := hE.out.trans hdd.2
                clear hsn hno hru hdd
                obtain ⟨r0, r1⟩ := hvr.cells
                obtain ⟨rf0, rf1⟩ := hvr.frozen
                go_wp2
                refine ret_cell2 (v := zer) Tryz.results213 rfl (vlSet hvr) rfl ⟨by rw [hRz.out, hEz.out]; rfl, ?_⟩
                exact belTwo _ _ ((bW0 w _).trans (hBw.mono (bW0 w _).size)) (Nat.le_refl _)
            · have b45 : (c == 45) = false := by simpa using h45
              by_cases h46 : c = 46
              · subst h46
                by_cases hL0 : L < 0
                · skip
                  have hst : Hid (runs 0 0 (-1) ((bytes s).take (k + 1)) = some (N, 3)) := hsn.out.trans (by rw [stp, if_neg (by omega), if_pos ⟨rfl, hL0⟩])
                  have hin := stp_in (hsn.out.symm.trans hst.out) hcb hN hL
                  clear hsn hno hru
                  go_wp2
                  go_roundw
                  case rel => exact ⟨k + 1, N, 3, by omega, by go_num, by go_num, by go_num, hst, hin.1, hin.2, by trivial⟩
                  case measure => simp [intOf]; omega
                · skip
                  have hdd := par_none hsp.out (runs_dead (hsn.out.trans (by rw [stp, if_neg (by omega), if_neg (by omega), if_neg (by omega)])))
                  have hRz : Hid (R = zer) := hR.out.trans hdd.1
                  have hEz : Hid (E = 80) := hE.out.trans hdd.2
                  clear hsn hno hru hdd
                  obtain ⟨r0, r1⟩ := hvr.cells
                  obtain ⟨rf0, rf1⟩ := hvr.frozen
                  go_wp2
                  refine ret_cell2 (v := zer) Tryz.results213 rfl (vlSet hvr) rfl ⟨by rw [hRz.out, hEz.out]; rfl, ?_⟩
                  exact belTwo _ _ ((bW0 w _).trans (hBw.mono (bW0 w _).size)) (Nat.le_refl _)
              · have b46 : (c == 46) = false := by simpa using h46
                by_cases h48 : 48 ≤ c
                · by_cases h57 : c ≤ 57
                  · have w1 : IntKind.u8.wrap (c - 48) = c - 48 := by rw [IntKind.wrap_u8]; omega
                    have w2' : IntKind.i64.wrap (c - 48) = c - 48 := by rw [IntKind.wrap_i64]; omega
                    by_cases hL0 : L = 0
                    · subst hL0
                      have hdd := par_none hsp.out (runs_dead (hsn.out.trans (by rw [stp, if_neg (by omega), if_neg (by omega), if_neg (by omega)])))
                      have hRz : Hid (R = zer) := hR.out.trans hdd.1
                      have hEz : Hid (E = 80) := hE.out.trans hdd.2
                      clear hsn hno hru hdd
                      obtain ⟨r0, r1⟩ := hvr.cells
                      obtain ⟨rf0, rf1⟩ := hvr.frozen
                      go_wp2
                      refine ret_cell2 (v := zer) Tryz.results213 rfl (vlSet hvr) rfl ⟨by rw [hRz.out, hEz.out]; rfl, ?_⟩
                      exact belTwo _ _ ((bW0 w _).trans (hBw.mono (bW0 w _).size)) (Nat.le_refl _)
                    · have bL : (L != 0) = true := by simpa using hL0
                      by_cases hNm : N ≤ 1000000000000000
                      · have w3' : IntKind.i64.wrap (10 * N) = 10 * N := by rw [IntKind.wrap_i64]; omega
                        have w4 : IntKind.i64.wrap (10 * N + (c - 48)) = 10 * N + (c - 48) := by rw [IntKind.wrap_i64]; omega
                        have w5 : IntKind.i64.wrap (L - 1) = L - 1 := by rw [IntKind.wrap_i64]; omega
                        by_cases hLp : 0 < L
                        · skip
                          have hst : Hid (runs 0 0 (-1) ((bytes s).take (k + 1)) = some (10 * N + (c - 48), L - 1)) := hsn.out.trans (by rw [stp, if_neg (by omega), if_neg (by omega), if_pos ⟨h48, h57, hL0, hNm⟩, if_pos hLp])
                          have hin := stp_in (hsn.out.symm.trans hst.out) hcb hN hL
                          clear hsn hno hru
                          go_wp2
                          go_roundw
                          case rel => exact ⟨k + 1, 10 * N + (c - 48), L - 1, by omega, by go_num, by go_num, by go_num, hst, hin.1, hin.2, by trivial⟩
                          case measure => simp [intOf]; omega
                        · skip
                          have hst : Hid (runs 0 0 (-1) ((bytes s).take (k + 1)) = some (10 * N + (c - 48), L)) := hsn.out.trans (by rw [stp, if_neg (by omega), if_neg (by omega), if_pos ⟨h48, h57, hL0, hNm⟩, if_neg hLp])
                          have hin := stp_in (hsn.out.symm.trans hst.out) hcb hN hL
                          clear hsn hno hru
                          go_wp2
                          go_roundw
                          case rel => exact ⟨k + 1, 10 * N + (c - 48), L, by omega, by go_num, by go_num, by go_num, hst, hin.1, hin.2, by trivial⟩
                          case measure => simp [intOf]; omega
                      · skip
                        have hdd := par_none hsp.out (runs_dead (hsn.out.trans (by rw [stp, if_neg (by omega), if_neg (by omega), if_neg (by omega)])))
                        have hRz : Hid (R = zer) := hR.out.trans hdd.1
                        have hEz : Hid (E = 80) := hE.out.trans hdd.2
                        clear hsn hno hru hdd
                        obtain ⟨r0, r1⟩ := hvr.cells
                        obtain ⟨rf0, rf1⟩ := hvr.frozen
                        go_wp2
                        refine ret_cell2 (v := zer) Tryz.results213 rfl (vlSet hvr) rfl ⟨by rw [hRz.out, hEz.out]; rfl, ?_⟩
                        exact belTwo _ _ ((bW0 w _).trans (hBw.mono (bW0 w _).size)) (Nat.le_refl _)
                  · skip
                    have hdd := par_none hsp.out (runs_dead (hsn.out.trans (by rw [stp, if_neg (by omega), if_neg (by omega), if_neg (by omega)])))
                    have hRz : Hid (R = zer) := hR.out.trans hdd.1
                    have hEz : Hid (E = 80) := hE.out.trans hdd.2
                    clear hsn hno hru hdd
                    obtain ⟨r0, r1⟩ := hvr.cells
                    obtain ⟨rf0, rf1⟩ := hvr.frozen
                    go_wp2
                    refine ret_cell2 (v := zer) Tryz.results213 rfl (vlSet hvr) rfl ⟨by rw [hRz.out, hEz.out]; rfl, ?_⟩
                    exact belTwo _ _ ((bW0 w _).trans (hBw.mono (bW0 w _).size)) (Nat.le_refl _)
                · skip
                  have hdd := par_none hsp.out (runs_dead (hsn.out.trans (by rw [stp, if_neg (by omega), if_neg (by omega), if_neg (by omega)])))
                  have hRz : Hid (R = zer) := hR.out.trans hdd.1
                  have hEz : Hid (E = 80) := hE.out.trans hdd.2
                  clear hsn hno hru hdd
                  obtain ⟨r0, r1⟩ := hvr.cells
                  obtain ⟨rf0, rf1⟩ := hvr.frozen
                  go_wp2
                  refine ret_cell2 (v := zer) Tryz.results213 rfl (vlSet hvr) rfl ⟨by rw [hRz.out, hEz.out]; rfl, ?_⟩
                  exact belTwo _ _ ((bW0 w _).trans (hBw.mono (bW0 w _).size)) (Nat.le_refl _)
          · obtain rfl : k = s.size := by omega
            have hru2 : Hid (runs 0 0 (-1) (bytes s) = some (N, L)) := by have h := hru.out; rwa [List.take_of_length_le (by rw [hblen.out]; omega)] at h
            clear hru hblen
            obtain ⟨X, hX⟩ : ∃ X, Hid (X = ten L N) := ⟨_, rfl⟩
            have hbig : Hid (1000000000000000 < X → R = zer ∧ E = 80) := fun h => by
              have h2 := par_big hsp.out hru2.out (by rw [← hX.out]; exact h)
              exact ⟨hR.out.trans h2.1, hE.out.trans h2.2⟩
            have hne : Hid (txtS ⟨1, sgd s X⟩ ≠ s → R = zer ∧ E = 80) := fun h => by
              have h2 := par_ne hsp.out hru2.out (by rw [← hX.out]; exact h)
              exact ⟨hR.out.trans h2.1, hE.out.trans h2.2⟩
            have hyes : Hid (∀ Z, -1000000000000000 ≤ Z → Z ≤ 1000000000000000 → txtS ⟨1, Z⟩ = s → R = ⟨1, Z⟩ ∧ E = 0) := fun Z h1 h2 h => by
              have hv : IsV ⟨1, Z⟩ := by have := num_isV Z; rw [num_in h1 h2] at this; exact this
              have h3 := par_yes hv h
              exact ⟨hR.out.trans h3.1, hE.out.trans h3.2⟩
            have hheads := (show Hid _ from heads s)
            have htens : Hid (L < 0 → X = 1000 * N) := fun h => by rw [hX.out, ten, if_pos h]
            have htens2 : Hid (¬ L < 0 → (L = 0 ∧ X = N) ∨ (L = 1 ∧ X = 10 * N) ∨ (L = 2 ∧ X = 100 * N) ∨ (L = 3 ∧ X = 1000 * N)) := fun h => by
              have h4 : L = 0 ∨ L = 1 ∨ L = 2 ∨ L = 3 := by omega
              rw [hX.out]
              rcases h4 with rfl | rfl | rfl | rfl <;> simp [ten]
            clear hru2 hX hR hE hsp
            by_cases hL0 : L < 0
            all_goals
              go_wp2
              go_loopw [6, 7] (fun n lf wq => ∃ N' L' : Int, n = .int .i64 N' ∧ lf = .int .i64 L' ∧ Hid ((L' = 0 ∧ X = N') ∨ (L' = 1 ∧ X = 10 * N') ∨ (L' = 2 ∧ X = 100 * N') ∨ (L' = 3 ∧ X = 1000 * N')) ∧ (0 ≤ N' ∧ N' ≤ 10000000000000009) ∧ (0 ≤ L' ∧ L' ≤ 3) ∧ wq = wr) (fun n lf _ => (intOf lf).toNat)
              case atStart => first | exact ⟨N, L, rfl, rfl, htens2.out hL0, hN, by omega, rfl⟩ | exact ⟨N, 3, rfl, rfl, .inr (.inr (.inr ⟨rfl, htens.out hL0⟩)), hN, by omega, rfl⟩
              case round =>
                clear hL0 htens htens2 hN hL
                obtain ⟨N, L, rfl, rfl, ht, hN, hL, rfl⟩ := hrel
                by_cases c1 : 0 < L
                · by_cases c2 : N ≤ 1000000000000000
                  · have w1 : IntKind.i64.wrap (10 * N) = 10 * N := by rw [IntKind.wrap_i64]; omega
                    have w2' : IntKind.i64.wrap (L - 1) = L - 1 := by rw [IntKind.wrap_i64]; omega
                    have ht1 : (L - 1 = 0 ∧ X = 10 * N) ∨ (L - 1 = 1 ∧ X = 10 * (10 * N)) ∨ (L - 1 = 2 ∧ X = 100 * (10 * N)) ∨ (L - 1 = 3 ∧ X = 1000 * (10 * N)) := by
                      have := ht.out
                      omega
                    have ht2 : Hid ((L - 1 = 0 ∧ X = 10 * N) ∨ (L - 1 = 1 ∧ X = 10 * (10 * N)) ∨ (L - 1 = 2 ∧ X = 100 * (10 * N)) ∨ (L - 1 = 3 ∧ X = 1000 * (10 * N))) := ht1
                    clear ht ht1
                    go_wp2
                    go_roundw
                    case rel => exact ⟨10 * N, L - 1, by go_num, by go_num, ht2, by omega, by omega, by trivial⟩
                    case measure => simp [intOf]; omega
                  · have hXb : 1000000000000000 < X := by have := ht.out; omega
                    have hRz : Hid (R = zer) := (hbig.out hXb).1
                    have hEz : Hid (E = 80) := (hbig.out hXb).2
                    have hnm := fun W => rnum_any N W
                    have hwn : IntKind.i64.wrap (-N) = -N := by rw [IntKind.wrap_i64]; omega
                    have hnm2 := fun W => rnum_any (-N) W
                    generalize num N = V1 at hnm
                    generalize num (-N) = V2 at hnm2
                    unfold vlV at hnm hnm2
                    clear ht hXb hbig hne hyes hpr
                    rcases hheads.out with ⟨g1, g2⟩ | ⟨_, g1, g3, _, g2⟩ | ⟨c0, g1, g3, g4, g2⟩
                    · clear g2 hheads
                      have g5 : s.toList.isEmpty = true := by rw [g1]; rfl
                      go_wp2_with (first | (go_at_call 20; with_reducible refine (hnm _).mono ?_; rintro e w2 ⟨rfl, hb2⟩; have hlt2 : w.heap.size < w2.heap.size := Nat.lt_of_lt_of_le hvr.lt hb2.size; have hr2 := hvr.grow hb2; obtain ⟨r0, r1⟩ := hr2.cells; obtain ⟨rf0, rf1⟩ := hr2.frozen; have hrE := hr2.alloc (.cells #[.int .i64 V1.kind, .int .i64 V1.n] 34); obtain ⟨q0, q1⟩ := hrE.cells; obtain ⟨qf0, qf1⟩ := hrE.frozen; have hBE := hb2.alloc hb2.size (.cells #[.int .i64 V1.kind, .int .i64 V1.n] 34); have hvE := vlNew w2 V1; unfold vlO at hvE; obtain ⟨v0, v1⟩ := hvE.cells; obtain ⟨vf0, vf1⟩ := hvE.frozen))
                      refine ret_cell2 (v := zer) Tryz.results213 rfl ((vlSet hr2).alloc _) rfl ⟨by rw [hRz.out, hEz.out]; rfl, ?_⟩
                      have hq := belTwo (.int .i64 0) (.int .i64 0) ((bW0 w (vlO zer)).trans ((hBw.trans (hb2.mono hBw.size)).mono (bW0 w _).size)) (Nat.le_refl w.heap.size)
                      exact hq.alloc hq.size _
                    · clear g2 hheads
                      have g5 : s.toList.isEmpty = false := by simpa using g1
                      go_wp2_with (first | (go_at_call 20; with_reducible refine (hnm _).mono ?_; rintro e w2 ⟨rfl, hb2⟩; have hlt2 : w.heap.size < w2.heap.size := Nat.lt_of_lt_of_le hvr.lt hb2.size; have hr2 := hvr.grow hb2; obtain ⟨r0, r1⟩ := hr2.cells; obtain ⟨rf0, rf1⟩ := hr2.frozen; have hrE := hr2.alloc (.cells #[.int .i64 V1.kind, .int .i64 V1.n] 34); obtain ⟨q0, q1⟩ := hrE.cells; obtain ⟨qf0, qf1⟩ := hrE.frozen; have hBE := hb2.alloc hb2.size (.cells #[.int .i64 V1.kind, .int .i64 V1.n] 34); have hvE := vlNew w2 V1; unfold vlO at hvE; obtain ⟨v0, v1⟩ := hvE.cells; obtain ⟨vf0, vf1⟩ := hvE.frozen) | (go_at_call 20; with_reducible refine (hnm2 _).mono ?_; rintro e w3 ⟨rfl, hb3⟩; have hB3 := hBE.trans (hb3.mono hBE.size); have hv3 := hvE.grow hb3; obtain ⟨u0, u1⟩ := hv3.cells; obtain ⟨uf0, uf1⟩ := hv3.frozen; have hr3 := hvr.grow hB3; obtain ⟨s0, s1⟩ := hr3.cells; obtain ⟨sf0, sf1⟩ := hr3.frozen; clear hBE hvE hrE; have hBE := belTwo (.int .i64 V2.kind) (.int .i64 V2.n) hB3 hb2.size; have hvE := vlSet (k := V2.kind) (n := V2.n) hv3; have hrE := hvr.grow hBE; obtain ⟨q0, q1⟩ := hrE.cells; obtain ⟨qf0, qf1⟩ := hrE.frozen; obtain ⟨v0, v1⟩ := hvE.cells; obtain ⟨vf0, vf1⟩ := hvE.frozen))
                      refine ret_cell2 (v := zer) Tryz.results213 rfl (vlSet hrE) rfl ⟨by rw [hRz.out, hEz.out]; rfl, ?_⟩
                      exact belTwo _ _ ((bW0 w _).trans ((hBw.trans (hBE.mono hBw.size)).mono (bW0 w _).size)) (Nat.le_refl _)
                    · clear g2 hheads
                      have g5 : s.toList.isEmpty = false := by simpa using g1
                      go_wp2_with (first | (go_at_call 20; with_reducible refine (hnm _).mono ?_; rintro e w2 ⟨rfl, hb2⟩; have hlt2 : w.heap.size < w2.heap.size := Nat.lt_of_lt_of_le hvr.lt hb2.size; have hr2 := hvr.grow hb2; obtain ⟨r0, r1⟩ := hr2.cells; obtain ⟨rf0, rf1⟩ := hr2.frozen; have hrE := hr2.alloc (.cells #[.int .i64 V1.kind, .int .i64 V1.n] 34); obtain ⟨q0, q1⟩ := hrE.cells; obtain ⟨qf0, qf1⟩ := hrE.frozen; have hBE := hb2.alloc hb2.size (.cells #[.int .i64 V1.kind, .int .i64 V1.n] 34); have hvE := vlNew w2 V1; unfold vlO at hvE; obtain ⟨v0, v1⟩ := hvE.cells; obtain ⟨vf0, vf1⟩ := hvE.frozen))
                      refine ret_cell2 (v := zer) Tryz.results213 rfl ((vlSet hr2).alloc _) rfl ⟨by rw [hRz.out, hEz.out]; rfl, ?_⟩
                      have hq := belTwo (.int .i64 0) (.int .i64 0) ((bW0 w (vlO zer)).trans ((hBw.trans (hb2.mono hBw.size)).mono (bW0 w _).size)) (Nat.le_refl w.heap.size)
                      exact hq.alloc hq.size _
                · obtain rfl : L = 0 := by omega
                  obtain rfl : X = N := by have := ht.out; omega
                  have hnm := fun W => rnum_any X W
                  have hwn : IntKind.i64.wrap (-X) = -X := by rw [IntKind.wrap_i64]; omega
                  have hnm2 := fun W => rnum_any (-X) W
                  clear ht
                  by_cases hXb : 1000000000000000 < X
                  · have hRz : Hid (R = zer) := (hbig.out hXb).1
                    have hEz : Hid (E = 80) := (hbig.out hXb).2
                    have e1 : ((num X).kind == 1) = false := num_kind (by omega)
                    have e2 : ((num (-X)).kind == 1) = false := num_kind (by omega)
                    generalize num X = V1 at hnm e1
                    generalize num (-X) = V2 at hnm2 e2
                    unfold vlV at hnm hnm2
                    clear hXb hbig hne hyes hpr
                    rcases hheads.out with ⟨g1, g2⟩ | ⟨_, g1, g3, _, g2⟩ | ⟨c0, g1, g3, g4, g2⟩
                    · clear g2 hheads
                      have g5 : s.toList.isEmpty = true := by rw [g1]; rfl
                      have hkn := fun W => knum_b V1 W
                      rw [e1] at hkn
                      unfold vlV at hkn
                      go_wp2_with (first | (go_at_call 20; with_reducible refine (hnm _).mono ?_; rintro e w2 ⟨rfl, hb2⟩; have hlt2 : w.heap.size < w2.heap.size := Nat.lt_of_lt_of_le hvr.lt hb2.size; have hr2 := hvr.grow hb2; obtain ⟨r0, r1⟩ := hr2.cells; obtain ⟨rf0, rf1⟩ := hr2.frozen; have hrE := hr2.alloc (.cells #[.int .i64 V1.kind, .int .i64 V1.n] 34); obtain ⟨q0, q1⟩ := hrE.cells; obtain ⟨qf0, qf1⟩ := hrE.frozen; have hBE := hb2.alloc hb2.size (.cells #[.int .i64 V1.kind, .int .i64 V1.n] 34); have hvE := vlNew w2 V1; unfold vlO at hvE; obtain ⟨v0, v1⟩ := hvE.cells; obtain ⟨vf0, vf1⟩ := hvE.frozen) | (go_at_call 120; with_reducible refine (hkn _).mono ?_; rintro e w4 ⟨rfl, hb4⟩; have hB4 := hBE.trans (hb4.mono hBE.size); have hv4 := hvE.grow hb4; obtain ⟨x0, x1⟩ := hv4.cells; obtain ⟨xf0, xf1⟩ := hv4.frozen; have hr4 := hvr.grow hB4; obtain ⟨y0, y1⟩ := hr4.cells; obtain ⟨yf0, yf1⟩ := hr4.frozen; clear hBE hvE hrE; have hBE := hB4; have hvE := hv4; have hrE := hr4))
                      refine ret_cell2 (v := zer) Tryz.results213 rfl (vlSet hrE) rfl ⟨by rw [hRz.out, hEz.out]; rfl, ?_⟩
                      exact belTwo _ _ ((bW0 w _).trans ((hBw.trans (hBE.mono hBw.size)).mono (bW0 w _).size)) (Nat.le_refl _)
                    · clear g2 hheads
                      have g5 : s.toList.isEmpty = false := by simpa using g1
                      have hkn := fun W => knum_b V2 W
                      rw [e2] at hkn
                      unfold vlV at hkn
                      go_wp2_with (first | (go_at_call 20; with_reducible refine (hnm _).mono ?_; rintro e w2 ⟨rfl, hb2⟩; have hlt2 : w.heap.size < w2.heap.size := Nat.lt_of_lt_of_le hvr.lt hb2.size; have hr2 := hvr.grow hb2; obtain ⟨r0, r1⟩ := hr2.cells; obtain ⟨rf0, rf1⟩ := hr2.frozen; have hrE := hr2.alloc (.cells #[.int .i64 V1.kind, .int .i64 V1.n] 34); obtain ⟨q0, q1⟩ := hrE.cells; obtain ⟨qf0, qf1⟩ := hrE.frozen; have hBE := hb2.alloc hb2.size (.cells #[.int .i64 V1.kind, .int .i64 V1.n] 34); have hvE := vlNew w2 V1; unfold vlO at hvE; obtain ⟨v0, v1⟩ := hvE.cells; obtain ⟨vf0, vf1⟩ := hvE.frozen) | (go_at_call 20; with_reducible refine (hnm2 _).mono ?_; rintro e w3 ⟨rfl, hb3⟩; have hB3 := hBE.trans (hb3.mono hBE.size); have hv3 := hvE.grow hb3; obtain ⟨u0, u1⟩ := hv3.cells; obtain ⟨uf0, uf1⟩ := hv3.frozen; have hr3 := hvr.grow hB3; obtain ⟨s0, s1⟩ := hr3.cells; obtain ⟨sf0, sf1⟩ := hr3.frozen; clear hBE hvE hrE; have hBE := belTwo (.int .i64 V2.kind) (.int .i64 V2.n) hB3 hb2.size; have hvE := vlSet (k := V2.kind) (n := V2.n) hv3; have hrE := hvr.grow hBE; obtain ⟨q0, q1⟩ := hrE.cells; obtain ⟨qf0, qf1⟩ := hrE.frozen; obtain ⟨v0, v1⟩ := hvE.cells; obtain ⟨vf0, vf1⟩ := hvE.frozen) | (go_at_call 120; with_reducible refine (hkn _).mono ?_; rintro e w4 ⟨rfl, hb4⟩; have hB4 := hBE.trans (hb4.mono hBE.size); have hv4 := hvE.grow hb4; obtain ⟨x0, x1⟩ := hv4.cells; obtain ⟨xf0, xf1⟩ := hv4.frozen; have hr4 := hvr.grow hB4; obtain ⟨y0, y1⟩ := hr4.cells; obtain ⟨yf0, yf1⟩ := hr4.frozen; clear hBE hvE hrE; have hBE := hB4; have hvE := hv4; have hrE := hr4))
                      refine ret_cell2 (v := zer) Tryz.results213 rfl (vlSet hrE) rfl ⟨by rw [hRz.out, hEz.out]; rfl, ?_⟩
                      exact belTwo _ _ ((bW0 w _).trans ((hBw.trans (hBE.mono hBw.size)).mono (bW0 w _).size)) (Nat.le_refl _)
                    · clear g2 hheads
                      have g5 : s.toList.isEmpty = false := by simpa using g1
                      have hkn := fun W => knum_b V1 W
                      rw [e1] at hkn
                      unfold vlV at hkn
                      go_wp2_with (first | (go_at_call 20; with_reducible refine (hnm _).mono ?_; rintro e w2 ⟨rfl, hb2⟩; have hlt2 : w.heap.size < w2.heap.size := Nat.lt_of_lt_of_le hvr.lt hb2.size; have hr2 := hvr.grow hb2; obtain ⟨r0, r1⟩ := hr2.cells; obtain ⟨rf0, rf1⟩ := hr2.frozen; have hrE := hr2.alloc (.cells #[.int .i64 V1.kind, .int .i64 V1.n] 34); obtain ⟨q0, q1⟩ := hrE.cells; obtain ⟨qf0, qf1⟩ := hrE.frozen; have hBE := hb2.alloc hb2.size (.cells #[.int .i64 V1.kind, .int .i64 V1.n] 34); have hvE := vlNew w2 V1; unfold vlO at hvE; obtain ⟨v0, v1⟩ := hvE.cells; obtain ⟨vf0, vf1⟩ := hvE.frozen) | (go_at_call 120; with_reducible refine (hkn _).mono ?_; rintro e w4 ⟨rfl, hb4⟩; have hB4 := hBE.trans (hb4.mono hBE.size); have hv4 := hvE.grow hb4; obtain ⟨x0, x1⟩ := hv4.cells; obtain ⟨xf0, xf1⟩ := hv4.frozen; have hr4 := hvr.grow hB4; obtain ⟨y0, y1⟩ := hr4.cells; obtain ⟨yf0, yf1⟩ := hr4.frozen; clear hBE hvE hrE; have hBE := hB4; have hvE := hv4; have hrE := hr4))
                      refine ret_cell2 (v := zer) Tryz.results213 rfl (vlSet hrE) rfl ⟨by rw [hRz.out, hEz.out]; rfl, ?_⟩
                      exact belTwo _ _ ((bW0 w _).trans ((hBw.trans (hBE.mono hBw.size)).mono (bW0 w _).size)) (Nat.le_refl _)
                  · rcases hheads.out with ⟨g1, g2⟩ | ⟨_, g1, g3, _, g2⟩ | ⟨c0, g1, g3, g4, g2⟩
                    · obtain ⟨V1, hV1⟩ : ∃ V, Hid (V = num X) := ⟨_, rfl⟩
                      have g5 : s.toList.isEmpty = true := by rw [g1]; rfl
                      obtain ⟨V2, hV2⟩ : ∃ V, Hid (V = num (-X)) := ⟨_, rfl⟩
                      rw [← hV1.out] at hnm
                      rw [← hV2.out] at hnm2
                      have hVe : Hid (V1 = ⟨1, X⟩) := hV1.out.trans (num_in (by omega) (by omega))
                      have hkn := fun W => knum_b V1 W
                      have hkk : (V1.kind == 1) = true := by rw [hVe.out]; rfl
                      rw [hkk] at hkn
                      have hp : ∀ W, Calls Tryz.prog 248 #[.agg #[.int .i64 V1.kind, .int .i64 V1.n]] W fun e w' => e = .returned (.string (txtS V1)) ∧ Below W.heap.size W w' := fun W => hpr.out W V1 (by rw [hV1.out]; exact num_isV _)
                      have hTn : ¬ (txtS V1).toList = [] := by rw [hVe.out]; exact txtS_ne _
                      have hne2 : Hid (txtS V1 ≠ s → R = zer ∧ E = 80) := fun h => hne.out (by rw [g2, ← hVe.out]; exact h)
                      have hyes2 : Hid (txtS V1 = s → R = V1 ∧ E = 0) := fun h => by
                        have := hyes.out (X) (by omega) (by omega) (by rw [← hVe.out]; exact h)
                        rw [hVe.out]; exact this
                      generalize txtS V1 = T at *
                      have hTb : (T.toList == []) = false := by simpa using hTn
                      have hbe := beq_str T s
                      unfold vlV at hnm hnm2 hkn
                      clear hXb hbig hne hyes hpr hheads g2 hV1 hV2 hVe hkk
                      have hTs : T ≠ s := fun h => hTn (by rw [h]; exact g1)
                      have hRz : Hid (R = zer) := (hne2.out hTs).1
                      have hEz : Hid (E = 80) := (hne2.out hTs).2
                      clear hne2 hyes2 hTs hbe
                      go_wp2_with (first | (go_at_call 20; with_reducible refine (hnm _).mono ?_; rintro e w2 ⟨rfl, hb2⟩; have hlt2 : w.heap.size < w2.heap.size := Nat.lt_of_lt_of_le hvr.lt hb2.size; have hr2 := hvr.grow hb2; obtain ⟨r0, r1⟩ := hr2.cells; obtain ⟨rf0, rf1⟩ := hr2.frozen; have hrE := hr2.alloc (.cells #[.int .i64 V1.kind, .int .i64 V1.n] 34); obtain ⟨q0, q1⟩ := hrE.cells; obtain ⟨qf0, qf1⟩ := hrE.frozen; have hBE := hb2.alloc hb2.size (.cells #[.int .i64 V1.kind, .int .i64 V1.n] 34); have hvE := vlNew w2 V1; unfold vlO at hvE; obtain ⟨v0, v1⟩ := hvE.cells; obtain ⟨vf0, vf1⟩ := hvE.frozen) | (go_at_call 120; with_reducible refine (hkn _).mono ?_; rintro e w4 ⟨rfl, hb4⟩; have hB4 := hBE.trans (hb4.mono hBE.size); have hv4 := hvE.grow hb4; obtain ⟨x0, x1⟩ := hv4.cells; obtain ⟨xf0, xf1⟩ := hv4.frozen; have hr4 := hvr.grow hB4; obtain ⟨y0, y1⟩ := hr4.cells; obtain ⟨yf0, yf1⟩ := hr4.frozen; clear hBE hvE hrE; have hBE := hB4; have hvE := hv4; have hrE := hr4) | (go_at_call 248; with_reducible refine (hp _).mono ?_; rintro e w5 ⟨rfl, hb5⟩; have hB5 := hBE.trans (hb5.mono hBE.size); have hv5 := hvE.grow hb5; obtain ⟨z0, z1⟩ := hv5.cells; obtain ⟨zf0, zf1⟩ := hv5.frozen; have hr5 := hvr.grow hB5; obtain ⟨t0, t1⟩ := hr5.cells; obtain ⟨tf0, tf1⟩ := hr5.frozen; clear hBE hvE hrE; have hBE := hB5; have hvE := hv5; have hrE := hr5))
                      refine ret_cell2 (v := zer) Tryz.results213 rfl (vlSet hrE) rfl ⟨by rw [hRz.out, hEz.out]; rfl, ?_⟩
                      exact belTwo _ _ ((bW0 w _).trans ((hBw.trans (hBE.mono hBw.size)).mono (bW0 w _).size)) (Nat.le_refl _)
                    · obtain ⟨V1, hV1⟩ : ∃ V, Hid (V = num X) := ⟨_, rfl⟩
                      have g5 : s.toList.isEmpty = false := by simpa using g1
                      obtain ⟨V2, hV2⟩ : ∃ V, Hid (V = num (-X)) := ⟨_, rfl⟩
                      rw [← hV1.out] at hnm
                      rw [← hV2.out] at hnm2
                      have hVe : Hid (V2 = ⟨1, -X⟩) := hV2.out.trans (num_in (by omega) (by omega))
                      have hkn := fun W => knum_b V2 W
                      have hkk : (V2.kind == 1) = true := by rw [hVe.out]; rfl
                      rw [hkk] at hkn
                      have hp : ∀ W, Calls Tryz.prog 248 #[.agg #[.int .i64 V2.kind, .int .i64 V2.n]] W fun e w' => e = .returned (.string (txtS V2)) ∧ Below W.heap.size W w' := fun W => hpr.out W V2 (by rw [hV2.out]; exact num_isV _)
                      have hTn : ¬ (txtS V2).toList = [] := by rw [hVe.out]; exact txtS_ne _
                      have hne2 : Hid (txtS V2 ≠ s → R = zer ∧ E = 80) := fun h => hne.out (by rw [g2, ← hVe.out]; exact h)
                      have hyes2 : Hid (txtS V2 = s → R = V2 ∧ E = 0) := fun h => by
                        have := hyes.out (-X) (by omega) (by omega) (by rw [← hVe.out]; exact h)
                        rw [hVe.out]; exact this
                      generalize txtS V2 = T at *
                      have hTb : (T.toList == []) = false := by simpa using hTn
                      have hbe := beq_str T s
                      unfold vlV at hnm hnm2 hkn
                      clear hXb hbig hne hyes hpr hheads g2 hV1 hV2 hVe hkk
                      clear hTn hTb
                      by_cases hTs : T = s
                      · have hRz : Hid (R = V2) := (hyes2.out hTs).1
                        have hEz : Hid (E = 0) := (hyes2.out hTs).2
                        have hb2' : (T.toList == s.toList) = true := by rw [hbe]; simpa using hTs
                        clear hne2 hyes2 hTs hbe
                        go_wp2_with (first | (go_at_call 20; with_reducible refine (hnm _).mono ?_; rintro e w2 ⟨rfl, hb2⟩; have hlt2 : w.heap.size < w2.heap.size := Nat.lt_of_lt_of_le hvr.lt hb2.size; have hr2 := hvr.grow hb2; obtain ⟨r0, r1⟩ := hr2.cells; obtain ⟨rf0, rf1⟩ := hr2.frozen; have hrE := hr2.alloc (.cells #[.int .i64 V1.kind, .int .i64 V1.n] 34); obtain ⟨q0, q1⟩ := hrE.cells; obtain ⟨qf0, qf1⟩ := hrE.frozen; have hBE := hb2.alloc hb2.size (.cells #[.int .i64 V1.kind, .int .i64 V1.n] 34); have hvE := vlNew w2 V1; unfold vlO at hvE; obtain ⟨v0, v1⟩ := hvE.cells; obtain ⟨vf0, vf1⟩ := hvE.frozen) | (go_at_call 20; with_reducible refine (hnm2 _).mono ?_; rintro e w3 ⟨rfl, hb3⟩; have hB3 := hBE.trans (hb3.mono hBE.size); have hv3 := hvE.grow hb3; obtain ⟨u0, u1⟩ := hv3.cells; obtain ⟨uf0, uf1⟩ := hv3.frozen; have hr3 := hvr.grow hB3; obtain ⟨s0, s1⟩ := hr3.cells; obtain ⟨sf0, sf1⟩ := hr3.frozen; clear hBE hvE hrE; have hBE := belTwo (.int .i64 V2.kind) (.int .i64 V2.n) hB3 hb2.size; have hvE := vlSet (k := V2.kind) (n := V2.n) hv3; have hrE := hvr.grow hBE; obtain ⟨q0, q1⟩ := hrE.cells; obtain ⟨qf0, qf1⟩ := hrE.frozen; obtain ⟨v0, v1⟩ := hvE.cells; obtain ⟨vf0, vf1⟩ := hvE.frozen) | (go_at_call 120; with_reducible refine (hkn _).mono ?_; rintro e w4 ⟨rfl, hb4⟩; have hB4 := hBE.trans (hb4.mono hBE.size); have hv4 := hvE.grow hb4; obtain ⟨x0, x1⟩ := hv4.cells; obtain ⟨xf0, xf1⟩ := hv4.frozen; have hr4 := hvr.grow hB4; obtain ⟨y0, y1⟩ := hr4.cells; obtain ⟨yf0, yf1⟩ := hr4.frozen; clear hBE hvE hrE; have hBE := hB4; have hvE := hv4; have hrE := hr4) | (go_at_call 248; with_reducible refine (hp _).mono ?_; rintro e w5 ⟨rfl, hb5⟩; have hB5 := hBE.trans (hb5.mono hBE.size); have hv5 := hvE.grow hb5; obtain ⟨z0, z1⟩ := hv5.cells; obtain ⟨zf0, zf1⟩ := hv5.frozen; have hr5 := hvr.grow hB5; obtain ⟨t0, t1⟩ := hr5.cells; obtain ⟨tf0, tf1⟩ := hr5.frozen; clear hBE hvE hrE; have hBE := hB5; have hvE := hv5; have hrE := hr5))
                        refine ret_cell2 (v := V2) Tryz.results213 rfl (vlSet hrE) rfl ⟨by rw [hRz.out, hEz.out]; rfl, ?_⟩
                        exact belTwo _ _ ((bW0 w _).trans ((hBw.trans (hBE.mono hBw.size)).mono (bW0 w _).size)) (Nat.le_refl _)
                      · have hRz : Hid (R = zer) := (hne2.out hTs).1
                        have hEz : Hid (E = 80) := (hne2.out hTs).2
                        have hb2' : (T.toList == s.toList) = false := by rw [hbe]; simpa using hTs
                        clear hne2 hyes2 hTs hbe
                        go_wp2_with (first | (go_at_call 20; with_reducible refine (hnm _).mono ?_; rintro e w2 ⟨rfl, hb2⟩; have hlt2 : w.heap.size < w2.heap.size := Nat.lt_of_lt_of_le hvr.lt hb2.size; have hr2 := hvr.grow hb2; obtain ⟨r0, r1⟩ := hr2.cells; obtain ⟨rf0, rf1⟩ := hr2.frozen; have hrE := hr2.alloc (.cells #[.int .i64 V1.kind, .int .i64 V1.n] 34); obtain ⟨q0, q1⟩ := hrE.cells; obtain ⟨qf0, qf1⟩ := hrE.frozen; have hBE := hb2.alloc hb2.size (.cells #[.int .i64 V1.kind, .int .i64 V1.n] 34); have hvE := vlNew w2 V1; unfold vlO at hvE; obtain ⟨v0, v1⟩ := hvE.cells; obtain ⟨vf0, vf1⟩ := hvE.frozen) | (go_at_call 20; with_reducible refine (hnm2 _).mono ?_; rintro e w3 ⟨rfl, hb3⟩; have hB3 := hBE.trans (hb3.mono hBE.size); have hv3 := hvE.grow hb3; obtain ⟨u0, u1⟩ := hv3.cells; obtain ⟨uf0, uf1⟩ := hv3.frozen; have hr3 := hvr.grow hB3; obtain ⟨s0, s1⟩ := hr3.cells; obtain ⟨sf0, sf1⟩ := hr3.frozen; clear hBE hvE hrE; have hBE := belTwo (.int .i64 V2.kind) (.int .i64 V2.n) hB3 hb2.size; have hvE := vlSet (k := V2.kind) (n := V2.n) hv3; have hrE := hvr.grow hBE; obtain ⟨q0, q1⟩ := hrE.cells; obtain ⟨qf0, qf1⟩ := hrE.frozen; obtain ⟨v0, v1⟩ := hvE.cells; obtain ⟨vf0, vf1⟩ := hvE.frozen) | (go_at_call 120; with_reducible refine (hkn _).mono ?_; rintro e w4 ⟨rfl, hb4⟩; have hB4 := hBE.trans (hb4.mono hBE.size); have hv4 := hvE.grow hb4; obtain ⟨x0, x1⟩ := hv4.cells; obtain ⟨xf0, xf1⟩ := hv4.frozen; have hr4 := hvr.grow hB4; obtain ⟨y0, y1⟩ := hr4.cells; obtain ⟨yf0, yf1⟩ := hr4.frozen; clear hBE hvE hrE; have hBE := hB4; have hvE := hv4; have hrE := hr4) | (go_at_call 248; with_reducible refine (hp _).mono ?_; rintro e w5 ⟨rfl, hb5⟩; have hB5 := hBE.trans (hb5.mono hBE.size); have hv5 := hvE.grow hb5; obtain ⟨z0, z1⟩ := hv5.cells; obtain ⟨zf0, zf1⟩ := hv5.frozen; have hr5 := hvr.grow hB5; obtain ⟨t0, t1⟩ := hr5.cells; obtain ⟨tf0, tf1⟩ := hr5.frozen; clear hBE hvE hrE; have hBE := hB5; have hvE := hv5; have hrE := hr5))
                        refine ret_cell2 (v := zer) Tryz.results213 rfl (vlSet hrE) rfl ⟨by rw [hRz.out, hEz.out]; rfl, ?_⟩
                        exact belTwo _ _ ((bW0 w _).trans ((hBw.trans (hBE.mono hBw.size)).mono (bW0 w _).size)) (Nat.le_refl _)
                    · obtain ⟨V1, hV1⟩ : ∃ V, Hid (V = num X) := ⟨_, rfl⟩
                      have g5 : s.toList.isEmpty = false := by simpa using g1
                      obtain ⟨V2, hV2⟩ : ∃ V, Hid (V = num (-X)) := ⟨_, rfl⟩
                      rw [← hV1.out] at hnm
                      rw [← hV2.out] at hnm2
                      have hVe : Hid (V1 = ⟨1, X⟩) := hV1.out.trans (num_in (by omega) (by omega))
                      have hkn := fun W => knum_b V1 W
                      have hkk : (V1.kind == 1) = true := by rw [hVe.out]; rfl
                      rw [hkk] at hkn
                      have hp : ∀ W, Calls Tryz.prog 248 #[.agg #[.int .i64 V1.kind, .int .i64 V1.n]] W fun e w' => e = .returned (.string (txtS V1)) ∧ Below W.heap.size W w' := fun W => hpr.out W V1 (by rw [hV1.out]; exact num_isV _)
                      have hTn : ¬ (txtS V1).toList = [] := by rw [hVe.out]; exact txtS_ne _
                      have hne2 : Hid (txtS V1 ≠ s → R = zer ∧ E = 80) := fun h => hne.out (by rw [g2, ← hVe.out]; exact h)
                      have hyes2 : Hid (txtS V1 = s → R = V1 ∧ E = 0) := fun h => by
                        have := hyes.out (X) (by omega) (by omega) (by rw [← hVe.out]; exact h)
                        rw [hVe.out]; exact this
                      generalize txtS V1 = T at *
                      have hTb : (T.toList == []) = false := by simpa using hTn
                      have hbe := beq_str T s
                      unfold vlV at hnm hnm2 hkn
                      clear hXb hbig hne hyes hpr hheads g2 hV1 hV2 hVe hkk
                      clear hTn hTb
                      by_cases hTs : T = s
                      · have hRz : Hid (R = V1) := (hyes2.out hTs).1
                        have hEz : Hid (E = 0) := (hyes2.out hTs).2
                        have hb2' : (T.toList == s.toList) = true := by rw [hbe]; simpa using hTs
                        clear hne2 hyes2 hTs hbe
                        go_wp2_with (first | (go_at_call 20; with_reducible refine (hnm _).mono ?_; rintro e w2 ⟨rfl, hb2⟩; have hlt2 : w.heap.size < w2.heap.size := Nat.lt_of_lt_of_le hvr.lt hb2.size; have hr2 := hvr.grow hb2; obtain ⟨r0, r1⟩ := hr2.cells; obtain ⟨rf0, rf1⟩ := hr2.frozen; have hrE := hr2.alloc (.cells #[.int .i64 V1.kind, .int .i64 V1.n] 34); obtain ⟨q0, q1⟩ := hrE.cells; obtain ⟨qf0, qf1⟩ := hrE.frozen; have hBE := hb2.alloc hb2.size (.cells #[.int .i64 V1.kind, .int .i64 V1.n] 34); have hvE := vlNew w2 V1; unfold vlO at hvE; obtain ⟨v0, v1⟩ := hvE.cells; obtain ⟨vf0, vf1⟩ := hvE.frozen) | (go_at_call 120; with_reducible refine (hkn _).mono ?_; rintro e w4 ⟨rfl, hb4⟩; have hB4 := hBE.trans (hb4.mono hBE.size); have hv4 := hvE.grow hb4; obtain ⟨x0, x1⟩ := hv4.cells; obtain ⟨xf0, xf1⟩ := hv4.frozen; have hr4 := hvr.grow hB4; obtain ⟨y0, y1⟩ := hr4.cells; obtain ⟨yf0, yf1⟩ := hr4.frozen; clear hBE hvE hrE; have hBE := hB4; have hvE := hv4; have hrE := hr4) | (go_at_call 248; with_reducible refine (hp _).mono ?_; rintro e w5 ⟨rfl, hb5⟩; have hB5 := hBE.trans (hb5.mono hBE.size); have hv5 := hvE.grow hb5; obtain ⟨z0, z1⟩ := hv5.cells; obtain ⟨zf0, zf1⟩ := hv5.frozen; have hr5 := hvr.grow hB5; obtain ⟨t0, t1⟩ := hr5.cells; obtain ⟨tf0, tf1⟩ := hr5.frozen; clear hBE hvE hrE; have hBE := hB5; have hvE := hv5; have hrE := hr5))
                        refine ret_cell2 (v := V1) Tryz.results213 rfl (vlSet hrE) rfl ⟨by rw [hRz.out, hEz.out]; rfl, ?_⟩
                        exact belTwo _ _ ((bW0 w _).trans ((hBw.trans (hBE.mono hBw.size)).mono (bW0 w _).size)) (Nat.le_refl _)
                      · have hRz : Hid (R = zer) := (hne2.out hTs).1
                        have hEz : Hid (E = 80) := (hne2.out hTs).2
                        have hb2' : (T.toList == s.toList) = false := by rw [hbe]; simpa using hTs
                        clear hne2 hyes2 hTs hbe
                        go_wp2_with (first | (go_at_call 20; with_reducible refine (hnm _).mono ?_; rintro e w2 ⟨rfl, hb2⟩; have hlt2 : w.heap.size < w2.heap.size := Nat.lt_of_lt_of_le hvr.lt hb2.size; have hr2 := hvr.grow hb2; obtain ⟨r0, r1⟩ := hr2.cells; obtain ⟨rf0, rf1⟩ := hr2.frozen; have hrE := hr2.alloc (.cells #[.int .i64 V1.kind, .int .i64 V1.n] 34); obtain ⟨q0, q1⟩ := hrE.cells; obtain ⟨qf0, qf1⟩ := hrE.frozen; have hBE := hb2.alloc hb2.size (.cells #[.int .i64 V1.kind, .int .i64 V1.n] 34); have hvE := vlNew w2 V1; unfold vlO at hvE; obtain ⟨v0, v1⟩ := hvE.cells; obtain ⟨vf0, vf1⟩ := hvE.frozen) | (go_at_call 120; with_reducible refine (hkn _).mono ?_; rintro e w4 ⟨rfl, hb4⟩; have hB4 := hBE.trans (hb4.mono hBE.size); have hv4 := hvE.grow hb4; obtain ⟨x0, x1⟩ := hv4.cells; obtain ⟨xf0, xf1⟩ := hv4.frozen; have hr4 := hvr.grow hB4; obtain ⟨y0, y1⟩ := hr4.cells; obtain ⟨yf0, yf1⟩ := hr4.frozen; clear hBE hvE hrE; have hBE := hB4; have hvE := hv4; have hrE := hr4) | (go_at_call 248; with_reducible refine (hp _).mono ?_; rintro e w5 ⟨rfl, hb5⟩; have hB5 := hBE.trans (hb5.mono hBE.size); have hv5 := hvE.grow hb5; obtain ⟨z0, z1⟩ := hv5.cells; obtain ⟨zf0, zf1⟩ := hv5.frozen; have hr5 := hvr.grow hB5; obtain ⟨t0, t1⟩ := hr5.cells; obtain ⟨tf0, tf1⟩ := hr5.frozen; clear hBE hvE hrE; have hBE := hB5; have hvE := hv5; have hrE := hr5))
                        refine ret_cell2 (v := zer) Tryz.results213 rfl (vlSet hrE) rfl ⟨by rw [hRz.out, hEz.out]; rfl, ?_⟩
                        exact belTwo _ _ ((bW0 w _).trans ((hBw.trans (hBE.mono hBw.size)).mono (bW0 w _).size)) (Nat.le_refl _)
end Go.Proofs.YtaffplmfnincfaaGreatDoor
