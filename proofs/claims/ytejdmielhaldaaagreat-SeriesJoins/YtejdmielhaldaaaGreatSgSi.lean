/- Sg; Si. -/
import Derived.Test.YtejdmielhaldaaaGreatSeSf
import Derived.Test.YtejdmielhaldaaaGreatVa2
/- series.reduced. -/
namespace Go.Proofs.YtejdmielhaldaaaGreat
set_option linter.unusedVariables false
open Go.RowKit
theorem hop_lt (a b : Vl) (ha : IsV a) (hb : IsV b) : IsV (doV ⟨#[60]⟩ [a, b]) := by rw [(do_lt ha hb).1]; exact two_isV ha hb (two_lt a b)
theorem hop_gt (a b : Vl) (ha : IsV a) (hb : IsV b) : IsV (doV ⟨#[62]⟩ [a, b]) := by rw [(do_gt ha hb).1]; exact two_isV ha hb (two_gt a b)
/-- What points come to. -/
def redV (how : ByteArray) (l : List Pn) : Vl :=
  if (how.toList == [99, 111, 117, 110, 116]) = true then num (1000 * l.length) else
  if l.length = 0 then nul else
  if (how.toList == [108, 97, 115, 116]) = true then (lastP l).v else
  if l.any unkB = true then nan else
  if (how.toList == [109, 105, 110]) = true then utV ⟨#[60]⟩ l else
  if (how.toList == [109, 97, 120]) = true then utV ⟨#[62]⟩ l else
  if (how.toList == [115, 117, 109]) = true then sumV l else
  doV ⟨#[47]⟩ [sumV l, num (1000 * l.length)]
/-- series.do of two values in a fresh row. -/
theorem sdo2a (op : ByteArray) (a b : Vl) (w : World) : Calls Tryz.prog 45 #[.string op, .slice (some ⟨w.heap.size, 0, none⟩) 2 2] (w.alloc (.cells #[.int .i64 a.kind, .int .i64 a.n, .int .i64 b.kind, .int .i64 b.n] 25)) fun e w' => e = .returned (.agg #[.int .i64 (doV op [a, b]).kind, .int .i64 (doV op [a, b]).n]) ∧ Below w.heap.size w w' :=
  (sdo_any op _ [a, b] _ (row2V w a b) (by simp)).mono fun e w' ⟨h, hb⟩ => ⟨h, (bW0 w _).trans (hb.mono (by simp))⟩
set_option maxRecDepth 100000 in
set_option maxHeartbeats 8000000 in
/-- series.reduced. -/
theorem red_any (how : ByteArray) (v : Value) (l : List Pn) (w : World) (hv : Pns w v l) (hl : l.length ≤ 1000000) (hva : ∀ p ∈ l, IsV p.v) :
    Calls Tryz.prog 34 #[.string how, v] w fun e w' => e = .returned (vlV (redV how l)) ∧ Below w.heap.size w w' := by
  have hA : VlAt (w.alloc (vlO zer)) w.heap.size zer := vlNew w zer
  have hO : Below w.heap.size w (w.alloc (vlO zer)) := bW0 w _
  have hvk : ∀ W, Below w.heap.size w W → Pns W v l := fun W h => hv.grow h
  have hcnt := scount_any v l _ (hvk _ hO) (by omega)
  have hnul := null_any (w.alloc (vlO zer))
  have hsh := hv.shape
  obtain ⟨R, hR⟩ : ∃ R, Hid (R = redV how l) := ⟨_, rfl⟩
  rw [← hR.out]
  have hRR := hR.out
  unfold redV at hRR
  have key : ∀ w1 : World, Below (w.alloc (vlO zer)).heap.size (w.alloc (vlO zer)) w1 → VlAt w1 w.heap.size zer ∧ Below w.heap.size w w1 := fun w1 hb => ⟨hA.grow hb, hO.trans (hb.mono hO.size)⟩
  cases h1 : how.toList == [99, 111, 117, 110, 116] with
  | true =>
    rw [h1, if_pos rfl] at hRR
    rw [← hRR] at hcnt
    clear hR hRR
    unfold vlV at *
    unfold vlO zer at *
    simp only at hcnt
    go_enter Tryz.func34, Tryz.ntmps34
    go_wp2_with (first
      | (go_at_call 59; refine hcnt.mono ?_; rintro e w1 ⟨rfl, hb1⟩; obtain ⟨k1, kB1⟩ := key _ hb1; obtain ⟨c0, c1⟩ := k1.cells; obtain ⟨f0, f1⟩ := k1.frozen))
    exact ret_cell (v := R) Tryz.results34 rfl (vlSet k1) ⟨rfl, belTwo _ _ kB1 (Nat.le_refl _)⟩
  | false =>
    rw [h1, if_neg (by decide)] at hRR
    obtain ⟨a, c, rfl⟩ := hsh
    by_cases h0 : l.length = 0
    · rw [if_pos h0] at hRR
      have hnul2 : Calls Tryz.prog 44 #[] (w.alloc (vlO zer)) fun e w' => e = .returned (vlV R) ∧ Below (w.alloc (vlO zer)).heap.size (w.alloc (vlO zer)) w' := by
        rw [hRR]; exact hnul.mono fun _ _ ⟨a, b⟩ => ⟨a, b ▸ bW0 _ _⟩
      have h0b : ((l.length : Int) == 0) = true := by rw [h0]; rfl
      clear hnul hcnt
      clear hR hRR hv
      unfold vlV at hnul2 ⊢
      unfold vlO zer at *
      simp only at hnul2
      go_enter Tryz.func34, Tryz.ntmps34
      go_wp2_with (first
        | (go_at_call 44; refine hnul2.mono ?_; rintro e w1 ⟨rfl, hb1⟩; obtain ⟨k1, kB1⟩ := key _ hb1; obtain ⟨c0, c1⟩ := k1.cells; obtain ⟨f0, f1⟩ := k1.frozen))
      exact ret_cell (v := R) Tryz.results34 rfl (vlSet k1) ⟨rfl, belTwo _ _ kB1 (Nat.le_refl _)⟩
    · rw [if_neg h0] at hRR
      have h0b : ((l.length : Int) == 0) = false := beq_eq_false_iff_ne.2 (by omega)
      have hpos : 0 < l.length := by omega
      clear hnul hcnt
      cases h2 : how.toList == [108, 97, 115, 116] with
      | true =>
        rw [h2, if_pos rfl] at hRR
        have hla := slast_any _ l _ (hvk _ hO) (by omega) hpos
        rw [← hRR] at hla
        clear hR hRR hv
        unfold vlV at hla ⊢
        unfold vlO zer at *
        simp only at hla
        go_enter Tryz.func34, Tryz.ntmps34
        go_wp2_with (first
          | (go_at_call 60; refine hla.mono ?_; rintro e w1 ⟨rfl, hb1⟩; obtain ⟨k1, kB1⟩ := key _ hb1; obtain ⟨c0, c1⟩ := k1.cells; obtain ⟨f0, f1⟩ := k1.frozen))
        exact ret_cell (v := R) Tryz.results34 rfl (vlSet k1) ⟨rfl, belTwo _ _ kB1 (Nat.le_refl _)⟩
      | false =>
        rw [h2, if_neg (by decide)] at hRR
        have hct := scont_any _ l _ (hvk _ hO) (by omega) hva
        cases hany : l.any unkB with
        | true =>
          rw [hany, if_pos rfl] at hRR
          rw [hany] at hct
          have hnan : ∀ W : World, Calls Tryz.prog 62 #[] W fun e w' => e = .returned (vlV R) ∧ Below W.heap.size W w' := fun W => by
            rw [hRR]; exact (nan_any W).mono fun _ _ ⟨a, b⟩ => ⟨a, b ▸ bW0 _ _⟩
          clear hR hRR hv
          unfold vlV at hnan ⊢
          unfold vlO zer at *
          simp only at hct
          go_enter Tryz.func34, Tryz.ntmps34
          go_wp2_with (first
            | (go_at_call 61; refine hct.mono ?_; rintro e w1 ⟨rfl, hb1⟩; obtain ⟨k1, kB1⟩ := key _ hb1)
            | (go_at_call 62; refine (hnan _).mono ?_; rintro e w2 ⟨rfl, hb2⟩; have k2 := k1.grow hb2; have kB2 := kB1.trans (hb2.mono kB1.size); obtain ⟨c0, c1⟩ := k2.cells; obtain ⟨f0, f1⟩ := k2.frozen))
          exact ret_cell (v := R) Tryz.results34 rfl (vlSet k2) ⟨rfl, belTwo _ _ kB2 (Nat.le_refl _)⟩
        | false =>
          rw [hany, if_neg (by decide)] at hRR
          rw [hany] at hct
          cases h3 : how.toList == [109, 105, 110] with
          | true =>
            rw [h3, if_pos rfl] at hRR
            have hut := fun W h => sut_any ⟨#[60]⟩ _ l W (hvk W h) (by omega) hpos hva hop_lt
            rw [← hRR] at hut
            clear hR hRR hv
            unfold vlV at hut ⊢
            unfold vlO zer at *
            simp only at hct
            go_enter Tryz.func34, Tryz.ntmps34
            go_wp2_with (first
              | (go_at_call 61; refine hct.mono ?_; rintro e w1 ⟨rfl, hb1⟩; obtain ⟨k1, kB1⟩ := key _ hb1)
              | (go_at_call 63; refine (hut _ kB1).mono ?_; rintro e w2 ⟨rfl, hb2⟩; have k2 := k1.grow hb2; have kB2 := kB1.trans (hb2.mono kB1.size); obtain ⟨c0, c1⟩ := k2.cells; obtain ⟨f0, f1⟩ := k2.frozen))
            exact ret_cell (v := R) Tryz.results34 rfl (vlSet k2) ⟨rfl, belTwo _ _ kB2 (Nat.le_refl _)⟩
          | false =>
            rw [h3, if_neg (by decide)] at hRR
            cases h4 : how.toList == [109, 97, 120] with
            | true =>
              rw [h4, if_pos rfl] at hRR
              have hut := fun W h => sut_any ⟨#[62]⟩ _ l W (hvk W h) (by omega) hpos hva hop_gt
              rw [← hRR] at hut
              clear hR hRR hv
              unfold vlV at hut ⊢
              unfold vlO zer at *
              simp only at hct
              go_enter Tryz.func34, Tryz.ntmps34
              go_wp2_with (first
                | (go_at_call 61; refine hct.mono ?_; rintro e w1 ⟨rfl, hb1⟩; obtain ⟨k1, kB1⟩ := key _ hb1)
                | (go_at_call 63; refine (hut _ kB1).mono ?_; rintro e w2 ⟨rfl, hb2⟩; have k2 := k1.grow hb2; have kB2 := kB1.trans (hb2.mono kB1.size); obtain ⟨c0, c1⟩ := k2.cells; obtain ⟨f0, f1⟩ := k2.frozen))
              exact ret_cell (v := R) Tryz.results34 rfl (vlSet k2) ⟨rfl, belTwo _ _ kB2 (Nat.le_refl _)⟩
            | false =>
              rw [h4, if_neg (by decide)] at hRR
              have hsu := fun W h => ssum_any _ l W (hvk W h) (by omega) hpos
              cases h5 : how.toList == [115, 117, 109] with
              | true =>
                rw [h5, if_pos rfl] at hRR
                rw [← hRR] at hsu
                clear hR hRR hv
                unfold vlV at hsu ⊢
                unfold vlO zer at *
                simp only at hct
                go_enter Tryz.func34, Tryz.ntmps34
                go_wp2_with (first
                  | (go_at_call 61; refine hct.mono ?_; rintro e w1 ⟨rfl, hb1⟩; obtain ⟨k1, kB1⟩ := key _ hb1)
                  | (go_at_call 64; refine (hsu _ kB1).mono ?_; rintro e w2 ⟨rfl, hb2⟩; have k2 := k1.grow hb2; have kB2 := kB1.trans (hb2.mono kB1.size); obtain ⟨c0, c1⟩ := k2.cells; obtain ⟨f0, f1⟩ := k2.frozen))
                exact ret_cell (v := R) Tryz.results34 rfl (vlSet k2) ⟨rfl, belTwo _ _ kB2 (Nat.le_refl _)⟩
              | false =>
                rw [h5, if_neg (by decide)] at hRR
                have hco := fun W h => scount_any _ l W (hvk W h) (by omega)
                generalize sumV l = T at *
                generalize num (1000 * (l.length : Int)) = C at *
                have hdo := fun W => sdo2a ⟨#[47]⟩ T C W
                rw [← hRR] at hdo
                clear hR hRR hv
                unfold vlV at hsu hco ⊢
                unfold vlO zer at *
                simp only at hct
                go_enter Tryz.func34, Tryz.ntmps34
                go_wp2_with (first
                  | (go_at_call 61; refine hct.mono ?_; rintro e w1 ⟨rfl, hb1⟩; obtain ⟨k1, kB1⟩ := key _ hb1)
                  | (go_at_call 64; refine (hsu _ kB1).mono ?_; rintro e w2 ⟨rfl, hb2⟩; have k2 := k1.grow hb2; have kB2 := kB1.trans (hb2.mono kB1.size))
                  | (go_at_call 59; refine (hco _ kB2).mono ?_; rintro e w3 ⟨rfl, hb3⟩; have k3 := k2.grow hb3; have kB3 := kB2.trans (hb3.mono kB2.size))
                  | (go_at_call 45; refine (hdo _).mono ?_; rintro e w4 ⟨rfl, hb4⟩; have k4 := k3.grow hb4; have kB4 := kB3.trans (hb4.mono kB3.size); obtain ⟨c0, c1⟩ := k4.cells; obtain ⟨f0, f1⟩ := k4.frozen))
                exact ret_cell (v := R) Tryz.results34 rfl (vlSet k4) ⟨rfl, belTwo _ _ kB4 (Nat.le_refl _)⟩
end Go.Proofs.YtejdmielhaldaaaGreat
/- series.Reduce. -/
namespace Go.Proofs.YtejdmielhaldaaaGreat
set_option linter.unusedVariables false
open Go.RowKit
/-- Reduce's error. -/
def redE (how : ByteArray) (l : List Pn) : Int := if howB how = false then 100 else if 2000 < l.length then 6 else if chkE (valsP l) = 0 then 0 else 80
/-- Reduce's value. -/
def reduV (how : ByteArray) (strict : Bool) (l : List Pn) : Vl := if redE how l = 0 then redV how (if strict = true then l else knownL l) else zer
theorem known_len (l : List Pn) : (knownL l).length ≤ l.length := List.length_filter_le _ _
set_option maxRecDepth 100000 in
set_option maxHeartbeats 8000000 in
theorem reduce_any (how : ByteArray) (strict : Bool) (v : Value) (l : List Pn) (w : World) (hv : Pns w v l) (hl : l.length ≤ 140737488351232) :
    Calls Tryz.prog 10 #[.string how, .bool strict, v] w fun e w' => e = .returned (.tuple #[vlV (reduV how strict l), .int .i64 (redE how l)]) ∧ Below w.heap.size w w' := by
  have hA : VlAt (w.alloc (vlO zer)) w.heap.size zer := vlNew w zer
  have hO : Below w.heap.size w (w.alloc (vlO zer)) := bW0 w _
  have hih := fun W => ishow_any how W
  obtain ⟨a, c, rfl⟩ := hv.shape
  have hvk : Hid (∀ W, Below w.heap.size w W → Pns W (.slice a l.length c) l) := fun W h => hv.grow h
  clear hv
  have eq1 : reduV how strict l = if redE how l = 0 then redV how (if strict = true then l else knownL l) else zer := rfl
  have eq2 : redE how l = if howB how = false then 100 else if 2000 < l.length then 6 else if chkE (valsP l) = 0 then 0 else 80 := rfl
  cases hh : howB how with
  | false =>
    rw [hh] at eq2 hih
    rw [if_pos rfl] at eq2
    rw [eq2, if_neg (by decide)] at eq1
    rw [eq1, eq2]
    clear eq1 eq2
    unfold vlV vlO zer at *
    obtain ⟨c0, c1⟩ := hA.cells
    obtain ⟨f0, f1⟩ := hA.frozen
    go_enter Tryz.func10, Tryz.ntmps10
    go_wp2_with (first | (go_at_call 30; refine (hih _).mono ?_; rintro e w1 ⟨rfl, rfl⟩))
    exact ret_cell2 (v := zer) Tryz.results10 rfl hA rfl ⟨rfl, hO⟩
  | true =>
    rw [hh] at eq2 hih
    rw [if_neg (by decide)] at eq2
    by_cases hm : 2000 < l.length
    · have hmi : (2000 : Int) < (l.length : Int) := by omega
      rw [if_pos hm] at eq2
      rw [eq2, if_neg (by decide)] at eq1
      rw [eq1, eq2]
      clear eq1 eq2
      unfold vlV vlO zer at *
      obtain ⟨c0, c1⟩ := hA.cells
      obtain ⟨f0, f1⟩ := hA.frozen
      go_enter Tryz.func10, Tryz.ntmps10
      go_wp2_with (first | (go_at_call 30; refine (hih _).mono ?_; rintro e w1 ⟨rfl, rfl⟩))
      exact ret_cell2 (v := zer) Tryz.results10 rfl hA rfl ⟨rfl, hO⟩
    · have hmi : ¬ (2000 : Int) < (l.length : Int) := by omega
      rw [if_neg hm] at eq2
      have hvs := svals_any _ l _ (hvk.out _ hO) (by omega)
      have hck := fun u W (h : Vls W u (valsP l)) => check_any u (valsP l) W h (by unfold valsP; rw [List.length_map]; omega)
      have key : ∀ w1 : World, Below (w.alloc (vlO zer)).heap.size (w.alloc (vlO zer)) w1 → VlAt w1 w.heap.size zer ∧ Below w.heap.size w w1 := fun w1 hb => ⟨hA.grow hb, hO.trans (hb.mono hO.size)⟩
      rcases chk_in (valsP l) with hz | hz
      · rw [hz] at hck eq2
        rw [if_pos rfl] at eq2
        rw [eq2, if_pos rfl] at eq1
        have hall : ∀ p ∈ l, IsV p.v := by
          intro p hp
          have hq : ∀ u ∈ valsP l, IsV u := by
            by_cases h : ∀ u ∈ valsP l, IsV u
            · exact h
            · rw [chkE, if_neg h] at hz; omega
          exact hq _ (List.mem_map.2 ⟨p, hp, rfl⟩)
        rw [eq2]
        cases strict with
        | true =>
          rw [if_pos rfl] at eq1
          have hre := fun W (h : Pns W (.slice a l.length c) l) => red_any how _ l W h (by omega) hall
          rw [← eq1] at hre
          clear eq1 eq2 hz
          generalize reduV how true l = R at *
          unfold vlV at hre ⊢
          unfold vlO zer at *
          simp only at hvs
          go_enter Tryz.func10, Tryz.ntmps10
          go_wp2_with (first
            | (go_at_call 30; refine (hih _).mono ?_; rintro e wx ⟨rfl, hwx⟩; subst wx)
            | (go_at_call 32; refine hvs.mono ?_; rintro e w1 ⟨u1, rfl, hp1, hb1⟩; obtain ⟨k1, kB1⟩ := key _ hb1)
            | (go_at_call 31; refine (hck u1 w1 hp1).mono ?_; rintro e w2 ⟨rfl, hb2⟩; have k2 := k1.grow hb2; have kB2 := kB1.trans (hb2.mono kB1.size); have hp2 := hvk.out _ kB2)
            | (go_at_call 34; refine (hre w2 hp2).mono ?_; rintro e w3 ⟨rfl, hb3⟩; have k3 := k2.grow hb3; have kB3 := kB2.trans (hb3.mono kB2.size); obtain ⟨c0, c1⟩ := k3.cells; obtain ⟨f0, f1⟩ := k3.frozen))
          exact ret_cell2 (v := R) Tryz.results10 rfl (vlSet k3) rfl ⟨rfl, belTwo _ _ kB3 (Nat.le_refl _)⟩
        | false =>
          rw [if_neg (by decide)] at eq1
          have hkn := fun W (h : Pns W (.slice a l.length c) l) => known_any _ l W h (by omega) hall
          have hall2 : ∀ p ∈ knownL l, IsV p.v := fun p hp => hall p (List.mem_filter.1 hp).1
          have hle := known_len l
          have hre := fun u W (h : Pns W u (knownL l)) => red_any how u (knownL l) W h (by omega) hall2
          rw [← eq1] at hre
          clear eq1 eq2 hz
          generalize reduV how false l = R at *
          unfold vlV at hre ⊢
          unfold vlO zer at *
          simp only at hvs
          go_enter Tryz.func10, Tryz.ntmps10
          go_wp2_with (first
            | (go_at_call 30; refine (hih _).mono ?_; rintro e wx ⟨rfl, hwx⟩; subst wx)
            | (go_at_call 32; refine hvs.mono ?_; rintro e w1 ⟨u1, rfl, hp1, hb1⟩; obtain ⟨k1, kB1⟩ := key _ hb1)
            | (go_at_call 31; refine (hck u1 w1 hp1).mono ?_; rintro e w2 ⟨rfl, hb2⟩; have k2 := k1.grow hb2; have kB2 := kB1.trans (hb2.mono kB1.size); have hp2 := hvk.out _ kB2)
            | (go_at_call 33; refine (hkn w2 hp2).mono ?_; rintro e w4 ⟨u4, rfl, hp4, hb4⟩; have k4 := k2.grow hb4; have kB4 := kB2.trans (hb4.mono kB2.size))
            | (go_at_call 34; refine (hre u4 w4 hp4).mono ?_; rintro e w3 ⟨rfl, hb3⟩; have k3 := k4.grow hb3; have kB3 := kB4.trans (hb3.mono kB4.size); obtain ⟨c0, c1⟩ := k3.cells; obtain ⟨f0, f1⟩ := k3.frozen))
          exact ret_cell2 (v := R) Tryz.results10 rfl (vlSet k3) rfl ⟨rfl, belTwo _ _ kB3 (Nat.le_refl _)⟩
      · rw [hz] at hck eq2
        rw [if_neg (by decide)] at eq2
        rw [eq2, if_neg (by decide)] at eq1
        rw [eq1, eq2]
        clear eq1 eq2 hz
        unfold vlV vlO zer at *
        simp only at hvs
        go_enter Tryz.func10, Tryz.ntmps10
        go_wp2_with (first
          | (go_at_call 30; refine (hih _).mono ?_; rintro e wx ⟨rfl, hwx⟩; subst wx)
          | (go_at_call 32; refine hvs.mono ?_; rintro e w1 ⟨u1, rfl, hp1, hb1⟩; obtain ⟨k1, kB1⟩ := key _ hb1)
          | (go_at_call 31; refine (hck u1 w1 hp1).mono ?_; rintro e w2 ⟨rfl, hb2⟩; have k2 := k1.grow hb2; have kB2 := kB1.trans (hb2.mono kB1.size); obtain ⟨c0, c1⟩ := k2.cells; obtain ⟨f0, f1⟩ := k2.frozen))
        exact ret_cell2 (v := zer) Tryz.results10 rfl (vlSet k2) rfl ⟨rfl, belTwo _ _ kB2 (Nat.le_refl _)⟩
end Go.Proofs.YtejdmielhaldaaaGreat
