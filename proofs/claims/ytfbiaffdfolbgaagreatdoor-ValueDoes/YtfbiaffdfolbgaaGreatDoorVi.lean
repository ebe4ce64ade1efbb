/- Values: the contracts of the functions that lie in twos' map: reckoned, compared, unlessNull, and what they enclose. -/
import Derived.Test.YtfbiaffdfolbgaaGreatDoorVh
namespace Go.Proofs.YtfbiaffdfolbgaaGreatDoor
set_option linter.unusedVariables false
open Go.RowKit
attribute [local go_sem ↓] Go.wp_at_zero Go.wp_at_succ
theorem keepC {w w' : World} {q : Addr} {u : Value} (h : w.cell? q = some u) (hb : Below w.heap.size w w') : w'.cell? q = some u := (hb.cell (World.block_lt_of_cell? w _ h)).trans h
set_option maxRecDepth 100000 in
set_option maxHeartbeats 1000000 in
theorem minus_any2 (a b : Vl) (hva : IsV a) (hvb : IsV b) (oa : Ordy a) (ob : Ordy b) (w : World) : Calls Tryz.prog 52 #[vlV a, vlV b] w fun e w' => e = .returned (vlV (add a (neg b))) ∧ Below w.heap.size w w' := by
  obtain ⟨ha, hb, hr⟩ := pW2 w a b
  have hB : Below (W2 w a b).heap.size (W2 w a b) (W2 w a b).drew := (Below.refl _ _).drew
  have ht := fun W => turned_any b hvb W
  have hon : Ordy (neg b) := by rcases ordy_cases hvb ob with ⟨m, rfl, h3, h4⟩ | rfl | rfl <;> simp [Ordy, neg, pls, mns]
  have hs := fun W => sum_any a (neg b) hva (neg_isV hvb) oa hon W
  generalize add a (neg b) = R at *
  generalize neg b = u at *
  obtain ⟨a0, a1⟩ := (ha.grow hB).cells
  obtain ⟨b0, b1⟩ := (hb.grow hB).cells
  obtain ⟨r0, r1⟩ := (hr.grow hB).cells
  obtain ⟨rf0, rf1⟩ := (hr.grow hB).frozen
  clear hva hvb oa ob hon
  unfold vlV at *
  go_enter Tryz.func52, Tryz.ntmps52
  go_wp2
  go_region_held3 (fun W => W.cell? ⟨w.heap.size, 0, none⟩ = some (.int .i64 a.kind) ∧ W.cell? ⟨w.heap.size, 1, none⟩ = some (.int .i64 a.n) ∧ W.cell? ⟨w.heap.size + 1, 0, none⟩ = some (.int .i64 b.kind) ∧ W.cell? ⟨w.heap.size + 1, 1, none⟩ = some (.int .i64 b.n)) (first | exact ⟨a0, a1, b0, b1⟩ | exact ⟨cset a0 (by omega), cset a1 (by omega), cset b0 (by omega), cset b1 (by omega)⟩) (first | (go_at_call 45; with_reducible refine (ht _).mono ?_; rintro e w2 ⟨rfl, hb2⟩; replace hB := hB.trans (hb2.mono hB.size); obtain ⟨a0, a1⟩ := (ha.grow hB).cells; obtain ⟨b0, b1⟩ := (hb.grow hB).cells; obtain ⟨r0, r1⟩ := (hr.grow hB).cells; obtain ⟨rf0, rf1⟩ := (hr.grow hB).frozen) | (go_at_call 51; with_reducible refine (hs _).mono ?_; rintro e w2 ⟨rfl, hb2⟩; replace hB := hB.trans (hb2.mono hB.size); obtain ⟨a0, a1⟩ := (ha.grow hB).cells; obtain ⟨b0, b1⟩ := (hb.grow hB).cells; obtain ⟨r0, r1⟩ := (hr.grow hB).cells; obtain ⟨rf0, rf1⟩ := (hr.grow hB).frozen))
  all_goals
    go_wp2
    exact end_set (v := R) Tryz.results52 rfl (by omega) (bW2 w _ _) hB hr
set_option maxRecDepth 100000 in
set_option maxHeartbeats 1000000 in
theorem and_any (a b : Vl) (hva : IsV a) (hvb : IsV b) (w : World) : Calls Tryz.prog 63 #[vlV a, vlV b] w fun e w' => e = .returned (vlV (tru (truB a && truB b))) ∧ Below w.heap.size w w' := by
  obtain ⟨ha, hb, hr⟩ := pW2 w a b
  have hB : Below (W2 w a b).heap.size (W2 w a b) (W2 w a b) := Below.refl _ _
  have hta := fun W => true_any a hva W
  have htb := fun W => true_any b hvb W
  clear hva hvb
  cases h1 : truB a
  · rw [h1] at hta
    have htr := fun W => truth_any false W
    unfold vlV at *
    go_enter Tryz.func63, Tryz.ntmps63
    go_wp2_with (first | (go_at_call 13; with_reducible refine (hta _).mono ?_; rintro e w2 ⟨rfl, hb2⟩; replace hB := hB.trans (hb2.mono hB.size); obtain ⟨a0, a1⟩ := (ha.grow hB).cells; obtain ⟨b0, b1⟩ := (hb.grow hB).cells; obtain ⟨r0, r1⟩ := (hr.grow hB).cells; obtain ⟨rf0, rf1⟩ := (hr.grow hB).frozen) | (go_at_call 13; with_reducible refine (htb _).mono ?_; rintro e w2 ⟨rfl, hb2⟩; replace hB := hB.trans (hb2.mono hB.size); obtain ⟨a0, a1⟩ := (ha.grow hB).cells; obtain ⟨b0, b1⟩ := (hb.grow hB).cells; obtain ⟨r0, r1⟩ := (hr.grow hB).cells; obtain ⟨rf0, rf1⟩ := (hr.grow hB).frozen) | (go_at_call 20; with_reducible refine (htr _).mono ?_; rintro e w2 ⟨rfl, hb2⟩; replace hB := hB.trans (hb2.mono hB.size); obtain ⟨a0, a1⟩ := (ha.grow hB).cells; obtain ⟨b0, b1⟩ := (hb.grow hB).cells; obtain ⟨r0, r1⟩ := (hr.grow hB).cells; obtain ⟨rf0, rf1⟩ := (hr.grow hB).frozen))
    exact end_set (v := tru false) Tryz.results63 rfl (by omega) (bW2 w _ _) hB hr
  · rw [h1] at hta
    have htr := fun W => truth_any (truB b) W
    generalize truB b = T at *
    unfold vlV at *
    go_enter Tryz.func63, Tryz.ntmps63
    go_wp2_with (first | (go_at_call 13; with_reducible refine (hta _).mono ?_; rintro e w2 ⟨rfl, hb2⟩; replace hB := hB.trans (hb2.mono hB.size); obtain ⟨a0, a1⟩ := (ha.grow hB).cells; obtain ⟨b0, b1⟩ := (hb.grow hB).cells; obtain ⟨r0, r1⟩ := (hr.grow hB).cells; obtain ⟨rf0, rf1⟩ := (hr.grow hB).frozen) | (go_at_call 13; with_reducible refine (htb _).mono ?_; rintro e w2 ⟨rfl, hb2⟩; replace hB := hB.trans (hb2.mono hB.size); obtain ⟨a0, a1⟩ := (ha.grow hB).cells; obtain ⟨b0, b1⟩ := (hb.grow hB).cells; obtain ⟨r0, r1⟩ := (hr.grow hB).cells; obtain ⟨rf0, rf1⟩ := (hr.grow hB).frozen) | (go_at_call 20; with_reducible refine (htr _).mono ?_; rintro e w2 ⟨rfl, hb2⟩; replace hB := hB.trans (hb2.mono hB.size); obtain ⟨a0, a1⟩ := (ha.grow hB).cells; obtain ⟨b0, b1⟩ := (hb.grow hB).cells; obtain ⟨r0, r1⟩ := (hr.grow hB).cells; obtain ⟨rf0, rf1⟩ := (hr.grow hB).frozen))
    exact end_set (v := tru T) Tryz.results63 rfl (by omega) (bW2 w _ _) hB hr
set_option maxRecDepth 100000 in
set_option maxHeartbeats 1000000 in
theorem or_any (a b : Vl) (hva : IsV a) (hvb : IsV b) (w : World) : Calls Tryz.prog 64 #[vlV a, vlV b] w fun e w' => e = .returned (vlV (tru (truB a || truB b))) ∧ Below w.heap.size w w' := by
  obtain ⟨ha, hb, hr⟩ := pW2 w a b
  have hB : Below (W2 w a b).heap.size (W2 w a b) (W2 w a b) := Below.refl _ _
  have hta := fun W => true_any a hva W
  have htb := fun W => true_any b hvb W
  clear hva hvb
  cases h1 : truB a
  · rw [h1] at hta
    have htr := fun W => truth_any (truB b) W
    generalize truB b = T at *
    unfold vlV at *
    go_enter Tryz.func64, Tryz.ntmps64
    go_wp2_with (first | (go_at_call 13; with_reducible refine (hta _).mono ?_; rintro e w2 ⟨rfl, hb2⟩; replace hB := hB.trans (hb2.mono hB.size); obtain ⟨a0, a1⟩ := (ha.grow hB).cells; obtain ⟨b0, b1⟩ := (hb.grow hB).cells; obtain ⟨r0, r1⟩ := (hr.grow hB).cells; obtain ⟨rf0, rf1⟩ := (hr.grow hB).frozen) | (go_at_call 13; with_reducible refine (htb _).mono ?_; rintro e w2 ⟨rfl, hb2⟩; replace hB := hB.trans (hb2.mono hB.size); obtain ⟨a0, a1⟩ := (ha.grow hB).cells; obtain ⟨b0, b1⟩ := (hb.grow hB).cells; obtain ⟨r0, r1⟩ := (hr.grow hB).cells; obtain ⟨rf0, rf1⟩ := (hr.grow hB).frozen) | (go_at_call 20; with_reducible refine (htr _).mono ?_; rintro e w2 ⟨rfl, hb2⟩; replace hB := hB.trans (hb2.mono hB.size); obtain ⟨a0, a1⟩ := (ha.grow hB).cells; obtain ⟨b0, b1⟩ := (hb.grow hB).cells; obtain ⟨r0, r1⟩ := (hr.grow hB).cells; obtain ⟨rf0, rf1⟩ := (hr.grow hB).frozen))
    exact end_set (v := tru T) Tryz.results64 rfl (by omega) (bW2 w _ _) hB hr
  · rw [h1] at hta
    have htr := fun W => truth_any true W
    unfold vlV at *
    go_enter Tryz.func64, Tryz.ntmps64
    go_wp2_with (first | (go_at_call 13; with_reducible refine (hta _).mono ?_; rintro e w2 ⟨rfl, hb2⟩; replace hB := hB.trans (hb2.mono hB.size); obtain ⟨a0, a1⟩ := (ha.grow hB).cells; obtain ⟨b0, b1⟩ := (hb.grow hB).cells; obtain ⟨r0, r1⟩ := (hr.grow hB).cells; obtain ⟨rf0, rf1⟩ := (hr.grow hB).frozen) | (go_at_call 13; with_reducible refine (htb _).mono ?_; rintro e w2 ⟨rfl, hb2⟩; replace hB := hB.trans (hb2.mono hB.size); obtain ⟨a0, a1⟩ := (ha.grow hB).cells; obtain ⟨b0, b1⟩ := (hb.grow hB).cells; obtain ⟨r0, r1⟩ := (hr.grow hB).cells; obtain ⟨rf0, rf1⟩ := (hr.grow hB).frozen) | (go_at_call 20; with_reducible refine (htr _).mono ?_; rintro e w2 ⟨rfl, hb2⟩; replace hB := hB.trans (hb2.mono hB.size); obtain ⟨a0, a1⟩ := (ha.grow hB).cells; obtain ⟨b0, b1⟩ := (hb.grow hB).cells; obtain ⟨r0, r1⟩ := (hr.grow hB).cells; obtain ⟨rf0, rf1⟩ := (hr.grow hB).frozen))
    exact end_set (v := tru true) Tryz.results64 rfl (by omega) (bW2 w _ _) hB hr
set_option maxRecDepth 100000 in
set_option maxHeartbeats 1000000 in
theorem rec_51 (a b : Vl) (p : Nat) (v : Vl) (w : World) (hp : w.cell? ⟨p, 0, none⟩ = some (.func (.func 51) #[] #[]))
    (hc : noB a b = false → ∀ W, Calls Tryz.prog 51 #[vlV a, vlV b] W fun e w' => e = .returned (vlV v) ∧ Below W.heap.size W w') :
    Calls Tryz.prog 81 #[vlV a, vlV b, .pointer (some ⟨p, 0, none⟩)] w fun e w' => e = .returned (vlV (if noB a b = true then nan else v)) ∧ Below w.heap.size w w' := by
  obtain ⟨ha, hb, hr⟩ := pW2 w a b
  have hB : Below (W2 w a b).heap.size (W2 w a b) (W2 w a b) := Below.refl _ _
  have hn := fun W => eitherNaN_b a b W
  have hnn := fun W => nan_b W
  have hpk : ∀ W, Below (W2 w a b).heap.size (W2 w a b) W → W.cell? ⟨p, 0, none⟩ = some (.func (.func 51) #[] #[]) := fun W h => keepC hp ((bW2 w a b).trans (h.mono (bW2 w a b).size))
  cases h1 : noB a b
  · rw [if_neg (by simp)]
    replace hc := hc h1
    rw [h1] at hn
    clear h1 hnn
    unfold vlV at *
    go_enter Tryz.func81, Tryz.ntmps81
    go_wp2_with (first | (go_at_call 82; with_reducible refine (hn _).mono ?_; rintro e w2 ⟨rfl, hb2⟩; replace hB := hB.trans (hb2.mono hB.size); obtain ⟨a0, a1⟩ := (ha.grow hB).cells; obtain ⟨b0, b1⟩ := (hb.grow hB).cells; obtain ⟨r0, r1⟩ := (hr.grow hB).cells; obtain ⟨rf0, rf1⟩ := (hr.grow hB).frozen; have pc := hpk _ hB) | (go_at_call 51; with_reducible refine (hc _).mono ?_; rintro e w2 ⟨rfl, hb2⟩; replace hB := hB.trans (hb2.mono hB.size); obtain ⟨a0, a1⟩ := (ha.grow hB).cells; obtain ⟨b0, b1⟩ := (hb.grow hB).cells; obtain ⟨r0, r1⟩ := (hr.grow hB).cells; obtain ⟨rf0, rf1⟩ := (hr.grow hB).frozen))
    exact end_set (v := v) Tryz.results81 rfl (by omega) (bW2 w _ _) hB hr
  · rw [if_pos rfl]
    rw [h1] at hn
    clear h1 hc
    unfold vlV at *
    go_enter Tryz.func81, Tryz.ntmps81
    go_wp2_with (first | (go_at_call 82; with_reducible refine (hn _).mono ?_; rintro e w2 ⟨rfl, hb2⟩; replace hB := hB.trans (hb2.mono hB.size); obtain ⟨a0, a1⟩ := (ha.grow hB).cells; obtain ⟨b0, b1⟩ := (hb.grow hB).cells; obtain ⟨r0, r1⟩ := (hr.grow hB).cells; obtain ⟨rf0, rf1⟩ := (hr.grow hB).frozen) | (go_at_call 24; with_reducible refine (hnn _).mono ?_; rintro e w2 ⟨rfl, hb2⟩; replace hB := hB.trans (hb2.mono hB.size); obtain ⟨a0, a1⟩ := (ha.grow hB).cells; obtain ⟨b0, b1⟩ := (hb.grow hB).cells; obtain ⟨r0, r1⟩ := (hr.grow hB).cells; obtain ⟨rf0, rf1⟩ := (hr.grow hB).frozen))
    exact end_set (v := nan) Tryz.results81 rfl (by omega) (bW2 w _ _) hB hr
set_option maxRecDepth 100000 in
set_option maxHeartbeats 1000000 in
theorem rec_52 (a b : Vl) (p : Nat) (v : Vl) (w : World) (hp : w.cell? ⟨p, 0, none⟩ = some (.func (.func 52) #[] #[]))
    (hc : noB a b = false → ∀ W, Calls Tryz.prog 52 #[vlV a, vlV b] W fun e w' => e = .returned (vlV v) ∧ Below W.heap.size W w') :
    Calls Tryz.prog 81 #[vlV a, vlV b, .pointer (some ⟨p, 0, none⟩)] w fun e w' => e = .returned (vlV (if noB a b = true then nan else v)) ∧ Below w.heap.size w w' := by
  obtain ⟨ha, hb, hr⟩ := pW2 w a b
  have hB : Below (W2 w a b).heap.size (W2 w a b) (W2 w a b) := Below.refl _ _
  have hn := fun W => eitherNaN_b a b W
  have hnn := fun W => nan_b W
  have hpk : ∀ W, Below (W2 w a b).heap.size (W2 w a b) W → W.cell? ⟨p, 0, none⟩ = some (.func (.func 52) #[] #[]) := fun W h => keepC hp ((bW2 w a b).trans (h.mono (bW2 w a b).size))
  cases h1 : noB a b
  · rw [if_neg (by simp)]
    replace hc := hc h1
    rw [h1] at hn
    clear h1 hnn
    unfold vlV at *
    go_enter Tryz.func81, Tryz.ntmps81
    go_wp2_with (first | (go_at_call 82; with_reducible refine (hn _).mono ?_; rintro e w2 ⟨rfl, hb2⟩; replace hB := hB.trans (hb2.mono hB.size); obtain ⟨a0, a1⟩ := (ha.grow hB).cells; obtain ⟨b0, b1⟩ := (hb.grow hB).cells; obtain ⟨r0, r1⟩ := (hr.grow hB).cells; obtain ⟨rf0, rf1⟩ := (hr.grow hB).frozen; have pc := hpk _ hB) | (go_at_call 52; with_reducible refine (hc _).mono ?_; rintro e w2 ⟨rfl, hb2⟩; replace hB := hB.trans (hb2.mono hB.size); obtain ⟨a0, a1⟩ := (ha.grow hB).cells; obtain ⟨b0, b1⟩ := (hb.grow hB).cells; obtain ⟨r0, r1⟩ := (hr.grow hB).cells; obtain ⟨rf0, rf1⟩ := (hr.grow hB).frozen))
    exact end_set (v := v) Tryz.results81 rfl (by omega) (bW2 w _ _) hB hr
  · rw [if_pos rfl]
    rw [h1] at hn
    clear h1 hc
    unfold vlV at *
    go_enter Tryz.func81, Tryz.ntmps81
    go_wp2_with (first | (go_at_call 82; with_reducible refine (hn _).mono ?_; rintro e w2 ⟨rfl, hb2⟩; replace hB := hB.trans (hb2.mono hB.size); obtain ⟨a0, a1⟩ := (ha.grow hB).cells; obtain ⟨b0, b1⟩ := (hb.grow hB).cells; obtain ⟨r0, r1⟩ := (hr.grow hB).cells; obtain ⟨rf0, rf1⟩ := (hr.grow hB).frozen) | (go_at_call 24; with_reducible refine (hnn _).mono ?_; rintro e w2 ⟨rfl, hb2⟩; replace hB := hB.trans (hb2.mono hB.size); obtain ⟨a0, a1⟩ := (ha.grow hB).cells; obtain ⟨b0, b1⟩ := (hb.grow hB).cells; obtain ⟨r0, r1⟩ := (hr.grow hB).cells; obtain ⟨rf0, rf1⟩ := (hr.grow hB).frozen))
    exact end_set (v := nan) Tryz.results81 rfl (by omega) (bW2 w _ _) hB hr
set_option maxRecDepth 100000 in
set_option maxHeartbeats 1000000 in
theorem rec_53 (a b : Vl) (p : Nat) (v : Vl) (w : World) (hp : w.cell? ⟨p, 0, none⟩ = some (.func (.func 53) #[] #[]))
    (hc : noB a b = false → ∀ W, Calls Tryz.prog 53 #[vlV a, vlV b] W fun e w' => e = .returned (vlV v) ∧ Below W.heap.size W w') :
    Calls Tryz.prog 81 #[vlV a, vlV b, .pointer (some ⟨p, 0, none⟩)] w fun e w' => e = .returned (vlV (if noB a b = true then nan else v)) ∧ Below w.heap.size w w' := by
  obtain ⟨ha, hb, hr⟩ := pW2 w a b
  have hB : Below (W2 w a b).heap.size (W2 w a b) (W2 w a b) := Below.refl _ _
  have hn := fun W => eitherNaN_b a b W
  have hnn := fun W => nan_b W
  have hpk : ∀ W, Below (W2 w a b).heap.size (W2 w a b) W → W.cell? ⟨p, 0, none⟩ = some (.func (.func 53) #[] #[]) := fun W h => keepC hp ((bW2 w a b).trans (h.mono (bW2 w a b).size))
  cases h1 : noB a b
  · rw [if_neg (by simp)]
    replace hc := hc h1
    rw [h1] at hn
    clear h1 hnn
    unfold vlV at *
    go_enter Tryz.func81, Tryz.ntmps81
    go_wp2_with (first | (go_at_call 82; with_reducible refine (hn _).mono ?_; rintro e w2 ⟨rfl, hb2⟩; replace hB := hB.trans (hb2.mono hB.size); obtain ⟨a0, a1⟩ := (ha.grow hB).cells; obtain ⟨b0, b1⟩ := (hb.grow hB).cells; obtain ⟨r0, r1⟩ := (hr.grow hB).cells; obtain ⟨rf0, rf1⟩ := (hr.grow hB).frozen; have pc := hpk _ hB) | (go_at_call 53; with_reducible refine (hc _).mono ?_; rintro e w2 ⟨rfl, hb2⟩; replace hB := hB.trans (hb2.mono hB.size); obtain ⟨a0, a1⟩ := (ha.grow hB).cells; obtain ⟨b0, b1⟩ := (hb.grow hB).cells; obtain ⟨r0, r1⟩ := (hr.grow hB).cells; obtain ⟨rf0, rf1⟩ := (hr.grow hB).frozen))
    exact end_set (v := v) Tryz.results81 rfl (by omega) (bW2 w _ _) hB hr
  · rw [if_pos rfl]
    rw [h1] at hn
    clear h1 hc
    unfold vlV at *
    go_enter Tryz.func81, Tryz.ntmps81
    go_wp2_with (first | (go_at_call 82; with_reducible refine (hn _).mono ?_; rintro e w2 ⟨rfl, hb2⟩; replace hB := hB.trans (hb2.mono hB.size); obtain ⟨a0, a1⟩ := (ha.grow hB).cells; obtain ⟨b0, b1⟩ := (hb.grow hB).cells; obtain ⟨r0, r1⟩ := (hr.grow hB).cells; obtain ⟨rf0, rf1⟩ := (hr.grow hB).frozen) | (go_at_call 24; with_reducible refine (hnn _).mono ?_; rintro e w2 ⟨rfl, hb2⟩; replace hB := hB.trans (hb2.mono hB.size); obtain ⟨a0, a1⟩ := (ha.grow hB).cells; obtain ⟨b0, b1⟩ := (hb.grow hB).cells; obtain ⟨r0, r1⟩ := (hr.grow hB).cells; obtain ⟨rf0, rf1⟩ := (hr.grow hB).frozen))
    exact end_set (v := nan) Tryz.results81 rfl (by omega) (bW2 w _ _) hB hr
set_option maxRecDepth 100000 in
set_option maxHeartbeats 1000000 in
theorem rec_54 (a b : Vl) (p : Nat) (v : Vl) (w : World) (hp : w.cell? ⟨p, 0, none⟩ = some (.func (.func 54) #[] #[]))
    (hc : noB a b = false → ∀ W, Calls Tryz.prog 54 #[vlV a, vlV b] W fun e w' => e = .returned (vlV v) ∧ Below W.heap.size W w') :
    Calls Tryz.prog 81 #[vlV a, vlV b, .pointer (some ⟨p, 0, none⟩)] w fun e w' => e = .returned (vlV (if noB a b = true then nan else v)) ∧ Below w.heap.size w w' := by
  obtain ⟨ha, hb, hr⟩ := pW2 w a b
  have hB : Below (W2 w a b).heap.size (W2 w a b) (W2 w a b) := Below.refl _ _
  have hn := fun W => eitherNaN_b a b W
  have hnn := fun W => nan_b W
  have hpk : ∀ W, Below (W2 w a b).heap.size (W2 w a b) W → W.cell? ⟨p, 0, none⟩ = some (.func (.func 54) #[] #[]) := fun W h => keepC hp ((bW2 w a b).trans (h.mono (bW2 w a b).size))
  cases h1 : noB a b
  · rw [if_neg (by simp)]
    replace hc := hc h1
    rw [h1] at hn
    clear h1 hnn
    unfold vlV at *
    go_enter Tryz.func81, Tryz.ntmps81
    go_wp2_with (first | (go_at_call 82; with_reducible refine (hn _).mono ?_; rintro e w2 ⟨rfl, hb2⟩; replace hB := hB.trans (hb2.mono hB.size); obtain ⟨a0, a1⟩ := (ha.grow hB).cells; obtain ⟨b0, b1⟩ := (hb.grow hB).cells; obtain ⟨r0, r1⟩ := (hr.grow hB).cells; obtain ⟨rf0, rf1⟩ := (hr.grow hB).frozen; have pc := hpk _ hB) | (go_at_call 54; with_reducible refine (hc _).mono ?_; rintro e w2 ⟨rfl, hb2⟩; replace hB := hB.trans (hb2.mono hB.size); obtain ⟨a0, a1⟩ := (ha.grow hB).cells; obtain ⟨b0, b1⟩ := (hb.grow hB).cells; obtain ⟨r0, r1⟩ := (hr.grow hB).cells; obtain ⟨rf0, rf1⟩ := (hr.grow hB).frozen))
    exact end_set (v := v) Tryz.results81 rfl (by omega) (bW2 w _ _) hB hr
  · rw [if_pos rfl]
    rw [h1] at hn
    clear h1 hc
    unfold vlV at *
    go_enter Tryz.func81, Tryz.ntmps81
    go_wp2_with (first | (go_at_call 82; with_reducible refine (hn _).mono ?_; rintro e w2 ⟨rfl, hb2⟩; replace hB := hB.trans (hb2.mono hB.size); obtain ⟨a0, a1⟩ := (ha.grow hB).cells; obtain ⟨b0, b1⟩ := (hb.grow hB).cells; obtain ⟨r0, r1⟩ := (hr.grow hB).cells; obtain ⟨rf0, rf1⟩ := (hr.grow hB).frozen) | (go_at_call 24; with_reducible refine (hnn _).mono ?_; rintro e w2 ⟨rfl, hb2⟩; replace hB := hB.trans (hb2.mono hB.size); obtain ⟨a0, a1⟩ := (ha.grow hB).cells; obtain ⟨b0, b1⟩ := (hb.grow hB).cells; obtain ⟨r0, r1⟩ := (hr.grow hB).cells; obtain ⟨rf0, rf1⟩ := (hr.grow hB).frozen))
    exact end_set (v := nan) Tryz.results81 rfl (by omega) (bW2 w _ _) hB hr
end Go.Proofs.YtfbiaffdfolbgaaGreatDoor
