/- Vi; Vj. -/
import Derived.Test.YtaffplmfnincfaaGreatDoorVfVh
/- Values: the contracts of the functions that lie in twos' map: reckoned, compared, unlessNull, and what they enclose. -/
namespace Go.Proofs.YtaffplmfnincfaaGreatDoor
set_option linter.unusedVariables false
open Go.RowKit
attribute [local go_sem ↓] Go.wp_at_zero Go.wp_at_succ
theorem keepC {w w' : World} {q : Addr} {u : Value} (h : w.cell? q = some u) (hb : Below w.heap.size w w') : w'.cell? q = some u := (hb.cell (World.block_lt_of_cell? w _ h)).trans h
set_option maxRecDepth 100000 in
set_option maxHeartbeats 1000000 in
theorem minus_any2 (a b : Vl) (hva : IsV a) (hvb : IsV b) (oa : Ordy a) (ob : Ordy b) (w : World) : Calls Tryz.prog 223 #[vlV a, vlV b] w fun e w' => e = .returned (vlV (add a (neg b))) ∧ Below w.heap.size w w' := by
  obtain ⟨ha, hb, hr⟩ := pW2 w a b
  have hB : Below (W2 w a b).heap.size (W2 w a b) (W2 w a b).drew := (Below.refl _ _).drew
  have ht := fun W => turned_any b hvb W
  have hon : Ordy (neg b) := by rcases ordy_cases hvb ob with ⟨m, rfl, h3, h4⟩ | rfl | rfl <;> simp [Ordy, neg, pls, mns]
  have hs := fun W => sum_any a (neg b) hva (neg_isV hvb) oa hon W
  generalize add a (neg b) = R at *
  generalize neg b = u at *
  obtain ⟨a0, a1⟩ := (ha.grow hB).cells
  obtain ⟨b0, b1⟩ := (hb.grow hB).cells
  obtain ⟨r0, r1⟩ := (hr.grow hB).cells
  obtain ⟨rf0, rf1⟩ := (hr.grow hB).frozen
  clear hva hvb oa ob hon
  unfold vlV at *
  go_enter Tryz.func223, Tryz.ntmps223
  go_wp2
  go_region_held3 (fun W => W.cell? ⟨w.heap.size, 0, none⟩ = some (.int .i64 a.kind) ∧ W.cell? ⟨w.heap.size, 1, none⟩ = some (.int .i64 a.n) ∧ W.cell? ⟨w.heap.size + 1, 0, none⟩ = some (.int .i64 b.kind) ∧ W.cell? ⟨w.heap.size + 1, 1, none⟩ = some (.int .i64 b.n)) (first | exact ⟨a0, a1, b0, b1⟩ | exact ⟨cset a0 (by omega), cset a1 (by omega), cset b0 (by omega), cset b1 (by omega)⟩) (first | (go_at_call 216; with_reducible refine (ht _).mono ?_; rintro e w2 ⟨rfl, hb2⟩; replace hB := hB.trans (hb2.mono hB.size); obtain ⟨a0, a1⟩ := (ha.grow hB).cells; obtain ⟨b0, b1⟩ := (hb.grow hB).cells; obtain ⟨r0, r1⟩ := (hr.grow hB).cells; obtain ⟨rf0, rf1⟩ := (hr.grow hB).frozen) | (go_at_call 222; with_reducible refine (hs _).mono ?_; rintro e w2 ⟨rfl, hb2⟩; replace hB := hB.trans (hb2.mono hB.size); obtain ⟨a0, a1⟩ := (ha.grow hB).cells; obtain ⟨b0, b1⟩ := (hb.grow hB).cells; obtain ⟨r0, r1⟩ := (hr.grow hB).cells; obtain ⟨rf0, rf1⟩ := (hr.grow hB).frozen))
  all_goals
    go_wp2
    exact end_set (v := R) Tryz.results223 rfl (by omega) (bW2 w _ _) hB hr
set_option maxRecDepth 100000 in
set_option maxHeartbeats 1000000 in
theorem and_any (a b : Vl) (hva : IsV a) (hvb : IsV b) (w : World) : Calls Tryz.prog 234 #[vlV a, vlV b] w fun e w' => e = .returned (vlV (tru (truB a && truB b))) ∧ Below w.heap.size w w' := by
  obtain ⟨ha, hb, hr⟩ := pW2 w a b
  have hB : Below (W2 w a b).heap.size (W2 w a b) (W2 w a b) := Below.refl _ _
  have hta := fun W => true_any a hva W
  have htb := fun W => true_any b hvb W
  clear hva hvb
  cases h1 : truB a
  · rw [h1] at hta
    have htr := fun W => truth_any false W
    unfold vlV at *
    go_enter Tryz.func234, Tryz.ntmps234
    go_wp2_with (first | (go_at_call 187; with_reducible refine (hta _).mono ?_; rintro e w2 ⟨rfl, hb2⟩; replace hB := hB.trans (hb2.mono hB.size); obtain ⟨a0, a1⟩ := (ha.grow hB).cells; obtain ⟨b0, b1⟩ := (hb.grow hB).cells; obtain ⟨r0, r1⟩ := (hr.grow hB).cells; obtain ⟨rf0, rf1⟩ := (hr.grow hB).frozen) | (go_at_call 187; with_reducible refine (htb _).mono ?_; rintro e w2 ⟨rfl, hb2⟩; replace hB := hB.trans (hb2.mono hB.size); obtain ⟨a0, a1⟩ := (ha.grow hB).cells; obtain ⟨b0, b1⟩ := (hb.grow hB).cells; obtain ⟨r0, r1⟩ := (hr.grow hB).cells; obtain ⟨rf0, rf1⟩ := (hr.grow hB).frozen) | (go_at_call 235; with_reducible refine (htr _).mono ?_; rintro e w2 ⟨rfl, hb2⟩; replace hB := hB.trans (hb2.mono hB.size); obtain ⟨a0, a1⟩ := (ha.grow hB).cells; obtain ⟨b0, b1⟩ := (hb.grow hB).cells; obtain ⟨r0, r1⟩ := (hr.grow hB).cells; obtain ⟨rf0, rf1⟩ := (hr.grow hB).frozen))
    exact end_set (v := tru false) Tryz.results234 rfl (by omega) (bW2 w _ _) hB hr
  · rw [h1] at hta
    have htr := fun W => truth_any (truB b) W
    generalize truB b = T at *
    unfold vlV at *
    go_enter Tryz.func234, Tryz.ntmps234
    go_wp2_with (first | (go_at_call 187; with_reducible refine (hta _).mono ?_; rintro e w2 ⟨rfl, hb2⟩; replace hB := hB.trans (hb2.mono hB.size); obtain ⟨a0, a1⟩ := (ha.grow hB).cells; obtain ⟨b0, b1⟩ := (hb.grow hB).cells; obtain ⟨r0, r1⟩ := (hr.grow hB).cells; obtain ⟨rf0, rf1⟩ := (hr.grow hB).frozen) | (go_at_call 187; with_reducible refine (htb _).mono ?_; rintro e w2 ⟨rfl, hb2⟩; replace hB := hB.trans (hb2.mono hB.size); obtain ⟨a0, a1⟩ := (ha.grow hB).cells; obtain ⟨b0, b1⟩ := (hb.grow hB).cells; obtain ⟨r0, r1⟩ := (hr.grow hB).cells; obtain ⟨rf0, rf1⟩ := (hr.grow hB).frozen) | (go_at_call 235; with_reducible refine (htr _).mono ?_; rintro e w2 ⟨rfl, hb2⟩; replace hB := hB.trans (hb2.mono hB.size); obtain ⟨a0, a1⟩ := (ha.grow hB).cells; obtain ⟨b0, b1⟩ := (hb.grow hB).cells; obtain ⟨r0, r1⟩ := (hr.grow hB).cells; obtain ⟨rf0, rf1⟩ := (hr.grow hB).frozen))
    exact end_set (v := tru T) Tryz.results234 rfl (by omega) (bW2 w _ _) hB hr
set_option maxRecDepth 100000 in
set_option maxHeartbeats 1000000 in
theorem or_any (a b : Vl) (hva : IsV a) (hvb : IsV b) (w : World) : Calls Tryz.prog 236 #[vlV a, vlV b] w fun e w' => e = .returned (vlV (tru (truB a || truB b))) ∧ Below w.heap.size w w' := by
  obtain ⟨ha, hb, hr⟩ := pW2 w a b
  have hB : Below (W2 w a b).heap.size (W2 w a b) (W2 w a b) := Below.refl _ _
  have hta := fun W => true_any a hva W
  have htb := fun W => true_any b hvb W
  clear hva hvb
  cases h1 : truB a
  · rw [h1] at hta
    have htr := fun W => truth_any (truB b) W
    generalize truB b = T at *
    unfold vlV at *
    go_enter Tryz.func236, Tryz.ntmps236
    go_wp2_with (first | (go_at_call 187; with_reducible refine (hta _).mono ?_; rintro e w2 ⟨rfl, hb2⟩; replace hB := hB.trans (hb2.mono hB.size); obtain ⟨a0, a1⟩ := (ha.grow hB).cells; obtain ⟨b0, b1⟩ := (hb.grow hB).cells; obtain ⟨r0, r1⟩ := (hr.grow hB).cells; obtain ⟨rf0, rf1⟩ := (hr.grow hB).frozen) | (go_at_call 187; with_reducible refine (htb _).mono ?_; rintro e w2 ⟨rfl, hb2⟩; replace hB := hB.trans (hb2.mono hB.size); obtain ⟨a0, a1⟩ := (ha.grow hB).cells; obtain ⟨b0, b1⟩ := (hb.grow hB).cells; obtain ⟨r0, r1⟩ := (hr.grow hB).cells; obtain ⟨rf0, rf1⟩ := (hr.grow hB).frozen) | (go_at_call 235; with_reducible refine (htr _).mono ?_; rintro e w2 ⟨rfl, hb2⟩; replace hB := hB.trans (hb2.mono hB.size); obtain ⟨a0, a1⟩ := (ha.grow hB).cells; obtain ⟨b0, b1⟩ := (hb.grow hB).cells; obtain ⟨r0, r1⟩ := (hr.grow hB).cells; obtain ⟨rf0, rf1⟩ := (hr.grow hB).frozen))
    exact end_set (v := tru T) Tryz.results236 rfl (by omega) (bW2 w _ _) hB hr
  · rw [h1] at hta
    have htr := fun W => truth_any true W
    unfold vlV at *
    go_enter Tryz.func236, Tryz.ntmps236
    go_wp2_with (first | (go_at_call 187; with_reducible refine (hta _).mono ?_; rintro e w2 ⟨rfl, hb2⟩; replace hB := hB.trans (hb2.mono hB.size); obtain ⟨a0, a1⟩ := (ha.grow hB).cells; obtain ⟨b0, b1⟩ := (hb.grow hB).cells; obtain ⟨r0, r1⟩ := (hr.grow hB).cells; obtain ⟨rf0, rf1⟩ := (hr.grow hB).frozen) | (go_at_call 187; with_reducible refine (htb _).mono ?_; rintro e w2 ⟨rfl, hb2⟩; replace hB := hB.trans (hb2.mono hB.size); obtain ⟨a0, a1⟩ := (ha.grow hB).cells; obtain ⟨b0, b1⟩ := (hb.grow hB).cells; obtain ⟨r0, r1⟩ := (hr.grow hB).cells; obtain ⟨rf0, rf1⟩ := (hr.grow hB).frozen) | (go_at_call 235; with_reducible refine (htr _).mono ?_; rintro e w2 ⟨rfl, hb2⟩; replace hB := hB.trans (hb2.mono hB.size); obtain ⟨a0, a1⟩ := (ha.grow hB).cells; obtain ⟨b0, b1⟩ := (hb.grow hB).cells; obtain ⟨r0, r1⟩ := (hr.grow hB).cells; obtain ⟨rf0, rf1⟩ := (hr.grow hB).frozen))
    exact end_set (v := tru true) Tryz.results236 rfl (by omega) (bW2 w _ _) hB hr
set_option maxRecDepth 100000 in
set_option maxHeartbeats 1000000 in
theorem rec_51 (a b : Vl) (p : Nat) (v : Vl) (w : World) (hp : w.cell? ⟨p, 0, none⟩ = some (.func (.func 222) #[] #[]))
    (hc : noB a b = false → ∀ W, Calls Tryz.prog 222 #[vlV a, vlV b] W fun e w' => e = .returned (vlV v) ∧ Below W.heap.size W w') :
    Calls Tryz.prog 254 #[vlV a, vlV b, .pointer (some ⟨p, 0, none⟩)] w fun e w' => e = .returned (vlV (if noB a b = true then nan else v)) ∧ Below w.heap.size w w' := by
  obtain ⟨ha, hb, hr⟩ := pW2 w a b
  have hB : Below (W2 w a b).heap.size (W2 w a b) (W2 w a b) := Below.refl _ _
  have hn := fun W => eitherNaN_b a b W
  have hnn := fun W => nan_b W
  have hpk : ∀ W, Below (W2 w a b).heap.size (W2 w a b) W → W.cell? ⟨p, 0, none⟩ = some (.func (.func 222) #[] #[]) := fun W h => keepC hp ((bW2 w a b).trans (h.mono (bW2 w a b).size))
  cases h1 : noB a b
  · rw [if_neg (by simp)]
    replace hc := hc h1
    rw [h1] at hn
    clear h1 hnn
    unfold vlV at *
    go_enter Tryz.func254, Tryz.ntmps254
    go_wp2_with (first | (go_at_call 255; with_reducible refine (hn _).mono ?_; rintro e w2 ⟨rfl, hb2⟩; replace hB := hB.trans (hb2.mono hB.size); obtain ⟨a0, a1⟩ := (ha.grow hB).cells; obtain ⟨b0, b1⟩ := (hb.grow hB).cells; obtain ⟨r0, r1⟩ := (hr.grow hB).cells; obtain ⟨rf0, rf1⟩ := (hr.grow hB).frozen; have pc := hpk _ hB) | (go_at_call 222; with_reducible refine (hc _).mono ?_; rintro e w2 ⟨rfl, hb2⟩; replace hB := hB.trans (hb2.mono hB.size); obtain ⟨a0, a1⟩ := (ha.grow hB).cells; obtain ⟨b0, b1⟩ := (hb.grow hB).cells; obtain ⟨r0, r1⟩ := (hr.grow hB).cells; obtain ⟨rf0, rf1⟩ := (hr.grow hB).frozen))
    exact end_set (v := v) Tryz.results254 rfl (by omega) (bW2 w _ _) hB hr
  · rw [if_pos rfl]
    rw [h1] at hn
    clear h1 hc
    unfold vlV at *
    go_enter Tryz.func254, Tryz.ntmps254
    go_wp2_with (first | (go_at_call 255; with_reducible refine (hn _).mono ?_; rintro e w2 ⟨rfl, hb2⟩; replace hB := hB.trans (hb2.mono hB.size); obtain ⟨a0, a1⟩ := (ha.grow hB).cells; obtain ⟨b0, b1⟩ := (hb.grow hB).cells; obtain ⟨r0, r1⟩ := (hr.grow hB).cells; obtain ⟨rf0, rf1⟩ := (hr.grow hB).frozen) | (go_at_call 136; with_reducible refine (hnn _).mono ?_; rintro e w2 ⟨rfl, hb2⟩; replace hB := hB.trans (hb2.mono hB.size); obtain ⟨a0, a1⟩ := (ha.grow hB).cells; obtain ⟨b0, b1⟩ := (hb.grow hB).cells; obtain ⟨r0, r1⟩ := (hr.grow hB).cells; obtain ⟨rf0, rf1⟩ := (hr.grow hB).frozen))
    exact end_set (v := nan) Tryz.results254 rfl (by omega) (bW2 w _ _) hB hr
set_option maxRecDepth 100000 in
set_option maxHeartbeats 1000000 in
theorem rec_52 (a b : Vl) (p : Nat) (v : Vl) (w : World) (hp : w.cell? ⟨p, 0, none⟩ = some (.func (.func 223) #[] #[]))
    (hc : noB a b = false → ∀ W, Calls Tryz.prog 223 #[vlV a, vlV b] W fun e w' => e = .returned (vlV v) ∧ Below W.heap.size W w') :
    Calls Tryz.prog 254 #[vlV a, vlV b, .pointer (some ⟨p, 0, none⟩)] w fun e w' => e = .returned (vlV (if noB a b = true then nan else v)) ∧ Below w.heap.size w w' := by
  obtain ⟨ha, hb, hr⟩ := pW2 w a b
  have hB : Below (W2 w a b).heap.size (W2 w a b) (W2 w a b) := Below.refl _ _
  have hn := fun W => eitherNaN_b a b W
  have hnn := fun W => nan_b W
  have hpk : ∀ W, Below (W2 w a b).heap.size (W2 w a b) W → W.cell? ⟨p, 0, none⟩ = some (.func (.func 223) #[] #[]) := fun W h => keepC hp ((bW2 w a b).trans (h.mono (bW2 w a b).size))
  cases h1 : noB a b
  · rw [if_neg (by simp)]
    replace hc := hc h1
    rw [h1] at hn
    clear h1 hnn
    unfold vlV at *
    go_enter Tryz.func254, Tryz.ntmps254
    go_wp2_with (first | (go_at_call 255; with_reducible refine (hn _).mono ?_; rintro e w2 ⟨rfl, hb2⟩; replace hB := hB.trans (hb2.mono hB.size); obtain ⟨a0, a1⟩ := (ha.grow hB).cells; obtain ⟨b0, b1⟩ := (hb.grow hB).cells; obtain ⟨r0, r1⟩ := (hr.grow hB).cells; obtain ⟨rf0, rf1⟩ := (hr.grow hB).frozen; have pc := hpk _ hB) | (go_at_call 223; with_reducible refine (hc _).mono ?_; rintro e w2 ⟨rfl, hb2⟩; replace hB := hB.trans (hb2.mono hB.size); obtain ⟨a0, a1⟩ := (ha.grow hB).cells; obtain ⟨b0, b1⟩ := (hb.grow hB).cells; obtain ⟨r0, r1⟩ := (hr.grow hB).cells; obtain ⟨rf0, rf1⟩ := (hr.grow hB).frozen))
    exact end_set (v := v) Tryz.results254 rfl (by omega) (bW2 w _ _) hB hr
  · rw [if_pos rfl]
    rw [h1] at hn
    clear h1 hc
    unfold vlV at *
    go_enter Tryz.func254, Tryz.ntmps254
    go_wp2_with (first | (go_at_call 255; with_reducible refine (hn _).mono ?_; rintro e w2 ⟨rfl, hb2⟩; replace hB := hB.trans (hb2.mono hB.size); obtain ⟨a0, a1⟩ := (ha.grow hB).cells; obtain ⟨b0, b1⟩ := (hb.grow hB).cells; obtain ⟨r0, r1⟩ := (hr.grow hB).cells; obtain ⟨rf0, rf1⟩ := (hr.grow hB).frozen) | (go_at_call 136; with_reducible refine (hnn _).mono ?_; rintro e w2 ⟨rfl, hb2⟩; replace hB := hB.trans (hb2.mono hB.size); obtain ⟨a0, a1⟩ := (ha.grow hB).cells; obtain ⟨b0, b1⟩ := (hb.grow hB).cells; obtain ⟨r0, r1⟩ := (hr.grow hB).cells; obtain ⟨rf0, rf1⟩ := (hr.grow hB).frozen))
    exact end_set (v := nan) Tryz.results254 rfl (by omega) (bW2 w _ _) hB hr
set_option maxRecDepth 100000 in
set_option maxHeartbeats 1000000 in
theorem rec_53 (a b : Vl) (p : Nat) (v : Vl) (w : World) (hp : w.cell? ⟨p, 0, none⟩ = some (.func (.func 224) #[] #[]))
    (hc : noB a b = false → ∀ W, Calls Tryz.prog 224 #[vlV a, vlV b] W fun e w' => e = .returned (vlV v) ∧ Below W.heap.size W w') :
    Calls Tryz.prog 254 #[vlV a, vlV b, .pointer (some ⟨p, 0, none⟩)] w fun e w' => e = .returned (vlV (if noB a b = true then nan else v)) ∧ Below w.heap.size w w' := by
  obtain ⟨ha, hb, hr⟩ := pW2 w a b
  have hB : Below (W2 w a b).heap.size (W2 w a b) (W2 w a b) := Below.refl _ _
  have hn := fun W => eitherNaN_b a b W
  have hnn := fun W => nan_b W
  have hpk : ∀ W, Below (W2 w a b).heap.size (W2 w a b) W → W.cell? ⟨p, 0, none⟩ = some (.func (.func 224) #[] #[]) := fun W h => keepC hp ((bW2 w a b).trans (h.mono (bW2 w a b).size))
  cases h1 : noB a b
  · rw [if_neg (by simp)]
    replace hc := hc h1
    rw [h1] at hn
    clear h1 hnn
    unfold vlV at *
    go_enter Tryz.func254, Tryz.ntmps254
    go_wp2_with (first | (go_at_call 255; with_reducible refine (hn _).mono ?_; rintro e w2 ⟨rfl, hb2⟩; replace hB := hB.trans (hb2.mono hB.size); obtain ⟨a0, a1⟩ := (ha.grow hB).cells; obtain ⟨b0, b1⟩ := (hb.grow hB).cells; obtain ⟨r0, r1⟩ := (hr.grow hB).cells; obtain ⟨rf0, rf1⟩ := (hr.grow hB).frozen; have pc := hpk _ hB) | (go_at_call 224; with_reducible refine (hc _).mono ?_; rintro e w2 ⟨rfl, hb2⟩; replace hB := hB.trans (hb2.mono hB.size); obtain ⟨a0, a1⟩ := (ha.grow hB).cells; obtain ⟨b0, b1⟩ := (hb.grow hB).cells; obtain ⟨r0, r1⟩ := (hr.grow hB).cells; obtain ⟨rf0, rf1⟩ := (hr.grow hB).frozen))
    exact end_set (v := v) Tryz.results254 rfl (by omega) (bW2 w _ _) hB hr
  · rw [if_pos rfl]
    rw [h1] at hn
    clear h1 hc
    unfold vlV at *
    go_enter Tryz.func254, Tryz.ntmps254
    go_wp2_with (first | (go_at_call 255; with_reducible refine (hn _).mono ?_; rintro e w2 ⟨rfl, hb2⟩; replace hB := hB.trans (hb2.mono hB.size); obtain ⟨a0, a1⟩ := (ha.grow hB).cells; obtain ⟨b0, b1⟩ := (hb.grow hB).cells; obtain ⟨r0, r1⟩ := (hr.grow hB).cells; obtain ⟨rf0, rf1⟩ := (hr.grow hB).frozen) | (go_at_call 136; with_reducible refine (hnn _).mono ?_; rintro e w2 ⟨rfl, hb2⟩; replace hB := hB.trans (hb2.mono hB.size); obtain ⟨a0, a1⟩ := (ha.grow hB).cells; obtain ⟨b0, b1⟩ := (hb.grow hB).cells; obtain ⟨r0, r1⟩ := (hr.grow hB).cells; obtain ⟨rf0, rf1⟩ := (hr.grow hB).frozen))
    exact end_set (v := nan) Tryz.results254 rfl (by omega) (bW2 w _ _) hB hr
set_option maxRecDepth 100000 in
set_option maxHeartbeats 1000000 in
theorem rec_54 (a b : Vl) (p : Nat) (v : Vl) (w : World) (hp : w.cell? ⟨p, 0, none⟩ = some (.func (.func 225) #[] #[]))
    (hc : noB a b = false → ∀ W, Calls Tryz.prog 225 #[vlV a, vlV b] W fun e w' => e = .returned (vlV v) ∧ Below W.heap.size W w') :
    Calls Tryz.prog 254 #[vlV a, vlV b, .pointer (some ⟨p, 0, none⟩)] w fun e w' => e = .returned (vlV (if noB a b = true then nan else v)) ∧ Below w.heap.size w w' := by
  obtain ⟨ha, hb, hr⟩ := pW2 w a b
  have hB : Below (W2 w a b).heap.size (W2 w a b) (W2 w a b) := Below.refl _ _
  have hn := fun W => eitherNaN_b a b W
  have hnn := fun W => nan_b W
  have hpk : ∀ W, Below (W2 w a b).heap.size (W2 w a b) W → W.cell? ⟨p, 0, none⟩ = some (.func (.func 225) #[] #[]) := fun W h => keepC hp ((bW2 w a b).trans (h.mono (bW2 w a b).size))
  cases h1 : noB a b
  · rw [if_neg (by simp)]
    replace hc := hc h1
    rw [h1] at hn
    clear h1 hnn
    unfold vlV at *
    go_enter Tryz.func254, Tryz.ntmps254
    go_wp2_with (first | (go_at_call 255; with_reducible refine (hn _).mono ?_; rintro e w2 ⟨rfl, hb2⟩; replace hB := hB.trans (hb2.mono hB.size); obtain ⟨a0, a1⟩ := (ha.grow hB).cells; obtain ⟨b0, b1⟩ := (hb.grow hB).cells; obtain ⟨r0, r1⟩ := (hr.grow hB).cells; obtain ⟨rf0, rf1⟩ := (hr.grow hB).frozen; have pc := hpk _ hB) | (go_at_call 225; with_reducible refine (hc _).mono ?_; rintro e w2 ⟨rfl, hb2⟩; replace hB := hB.trans (hb2.mono hB.size); obtain ⟨a0, a1⟩ := (ha.grow hB).cells; obtain ⟨b0, b1⟩ := (hb.grow hB).cells; obtain ⟨r0, r1⟩ := (hr.grow hB).cells; obtain ⟨rf0, rf1⟩ := (hr.grow hB).frozen))
    exact end_set (v := v) Tryz.results254 rfl (by omega) (bW2 w _ _) hB hr
  · rw [if_pos rfl]
    rw [h1] at hn
    clear h1 hc
    unfold vlV at *
    go_enter Tryz.func254, Tryz.ntmps254
    go_wp2_with (first | (go_at_call 255; with_reducible refine (hn _).mono ?_; rintro e w2 ⟨rfl, hb2⟩; replace hB := hB.trans (hb2.mono hB.size); obtain ⟨a0, a1⟩ := (ha.grow hB).cells; obtain ⟨b0, b1⟩ := (hb.grow hB).cells; obtain ⟨r0, r1⟩ := (hr.grow hB).cells; obtain ⟨rf0, rf1⟩ := (hr.grow hB).frozen) | (go_at_call 136; with_reducible refine (hnn _).mono ?_; rintro e w2 ⟨rfl, hb2⟩; replace hB := hB.trans (hb2.mono hB.size); obtain ⟨a0, a1⟩ := (ha.grow hB).cells; obtain ⟨b0, b1⟩ := (hb.grow hB).cells; obtain ⟨r0, r1⟩ := (hr.grow hB).cells; obtain ⟨rf0, rf1⟩ := (hr.grow hB).frozen))
    exact end_set (v := nan) Tryz.results254 rfl (by omega) (bW2 w _ _) hB hr
end Go.Proofs.YtaffplmfnincfaaGreatDoor
/- Values: the contracts of what compared and unlessNull make. -/
namespace Go.Proofs.YtaffplmfnincfaaGreatDoor
set_option linter.unusedVariables false
open Go.RowKit
attribute [local go_sem ↓] Go.wp_at_zero Go.wp_at_succ
set_option maxRecDepth 100000 in
theorem hold_56 (n : Int) (w : World) : Calls Tryz.prog 227 #[.int .i64 n] w fun e w' => e = .returned (.bool (n == 0)) ∧ Below w.heap.size w w' := by
  go_enter Tryz.func227, Tryz.ntmps227
  go_wp2
  go_ret
  exact ⟨rfl, Below.refl _ _⟩
set_option maxRecDepth 100000 in
set_option maxHeartbeats 1000000 in
theorem cmp_56 (a b : Vl) (p p2 : Nat) (B : Bool) (w : World) (hp : w.cell? ⟨p, 0, none⟩ = some (.bool B)) (hp2 : w.cell? ⟨p2, 0, none⟩ = some (.func (.func 227) #[] #[]))
    (hc : noB a b = false → ∀ W, Calls Tryz.prog 258 #[vlV a, vlV b] W fun e w' => e = .returned (.int .i64 (ordI a b)) ∧ Below W.heap.size W w') :
    Calls Tryz.prog 257 #[vlV a, vlV b, .pointer (some ⟨p, 0, none⟩), .pointer (some ⟨p2, 0, none⟩)] w fun e w' => e = .returned (vlV (tru (if noB a b = true then B else (ordI a b == 0)))) ∧ Below w.heap.size w w' := by
  obtain ⟨ha, hb, hr⟩ := pW2 w a b
  have hB : Below (W2 w a b).heap.size (W2 w a b) (W2 w a b) := Below.refl _ _
  have hn := fun W => eitherNaN_b a b W
  have hpk : ∀ W, Below (W2 w a b).heap.size (W2 w a b) W → W.cell? ⟨p, 0, none⟩ = some (.bool B) := fun W h => keepC hp ((bW2 w a b).trans (h.mono (bW2 w a b).size))
  have hpk2 : ∀ W, Below (W2 w a b).heap.size (W2 w a b) W → W.cell? ⟨p2, 0, none⟩ = some (.func (.func 227) #[] #[]) := fun W h => keepC hp2 ((bW2 w a b).trans (h.mono (bW2 w a b).size))
  have hlt2 : p2 < w.heap.size := World.block_lt_of_cell? w _ hp2
  clear hp hp2
  cases h1 : noB a b
  · rw [if_neg (by simp)]
    replace hc := hc h1
    rw [h1] at hn
    have hh := fun W => hold_56 (ordI a b) W
    have ht := fun W => truth_any (ordI a b == 0) W
    generalize (ordI a b == 0) = T at *
    generalize ordI a b = n at *
    clear h1
    unfold vlV at *
    go_enter Tryz.func257, Tryz.ntmps257
    go_wp2_with (first | (go_at_call 255; with_reducible refine (hn _).mono ?_; rintro e w2 ⟨rfl, hb2⟩; replace hB := hB.trans (hb2.mono hB.size); obtain ⟨a0, a1⟩ := (ha.grow hB).cells; obtain ⟨b0, b1⟩ := (hb.grow hB).cells; obtain ⟨r0, r1⟩ := (hr.grow hB).cells; obtain ⟨rf0, rf1⟩ := (hr.grow hB).frozen))
    replace hB := hB.drew
    obtain ⟨a0, a1⟩ := (ha.grow hB).cells
    obtain ⟨b0, b1⟩ := (hb.grow hB).cells
    obtain ⟨r0, r1⟩ := (hr.grow hB).cells
    obtain ⟨rf0, rf1⟩ := (hr.grow hB).frozen
    go_region_held3 (fun W => W.cell? ⟨w.heap.size, 0, none⟩ = some (.int .i64 a.kind) ∧ W.cell? ⟨w.heap.size, 1, none⟩ = some (.int .i64 a.n) ∧ W.cell? ⟨w.heap.size + 1, 0, none⟩ = some (.int .i64 b.kind) ∧ W.cell? ⟨w.heap.size + 1, 1, none⟩ = some (.int .i64 b.n) ∧ W.cell? ⟨p2, 0, none⟩ = some (.func (.func 227) #[] #[]))
      (first | exact ⟨a0, a1, b0, b1, hpk2 _ hB⟩ | exact ⟨cset a0 (by omega), cset a1 (by omega), cset b0 (by omega), cset b1 (by omega), cset (hpk2 _ hB) (by omega)⟩)
      (first | (go_at_call 258; with_reducible refine (hc _).mono ?_; rintro e w2 ⟨rfl, hb2⟩; replace hB := hB.trans (hb2.mono hB.size); obtain ⟨a0, a1⟩ := (ha.grow hB).cells; obtain ⟨b0, b1⟩ := (hb.grow hB).cells; obtain ⟨r0, r1⟩ := (hr.grow hB).cells; obtain ⟨rf0, rf1⟩ := (hr.grow hB).frozen) | (go_at_call 227; with_reducible refine (hh _).mono ?_; rintro e w2 ⟨rfl, hb2⟩; replace hB := hB.trans (hb2.mono hB.size); obtain ⟨a0, a1⟩ := (ha.grow hB).cells; obtain ⟨b0, b1⟩ := (hb.grow hB).cells; obtain ⟨r0, r1⟩ := (hr.grow hB).cells; obtain ⟨rf0, rf1⟩ := (hr.grow hB).frozen) | (go_at_call 235; with_reducible refine (ht _).mono ?_; rintro e w2 ⟨rfl, hb2⟩; replace hB := hB.trans (hb2.mono hB.size); obtain ⟨a0, a1⟩ := (ha.grow hB).cells; obtain ⟨b0, b1⟩ := (hb.grow hB).cells; obtain ⟨r0, r1⟩ := (hr.grow hB).cells; obtain ⟨rf0, rf1⟩ := (hr.grow hB).frozen))
    all_goals
      go_wp2
      exact end_set (v := tru T) Tryz.results257 rfl (by omega) (bW2 w _ _) hB hr
  · rw [if_pos rfl]
    rw [h1] at hn
    have ht := fun W => truth_any B W
    clear h1 hc hpk2
    unfold vlV at *
    go_enter Tryz.func257, Tryz.ntmps257
    go_wp2_with (first | (go_at_call 255; with_reducible refine (hn _).mono ?_; rintro e w2 ⟨rfl, hb2⟩; replace hB := hB.trans (hb2.mono hB.size); obtain ⟨a0, a1⟩ := (ha.grow hB).cells; obtain ⟨b0, b1⟩ := (hb.grow hB).cells; obtain ⟨r0, r1⟩ := (hr.grow hB).cells; obtain ⟨rf0, rf1⟩ := (hr.grow hB).frozen; have pc := hpk _ hB) | (go_at_call 235; with_reducible refine (ht _).mono ?_; rintro e w2 ⟨rfl, hb2⟩; replace hB := hB.trans (hb2.mono hB.size); obtain ⟨a0, a1⟩ := (ha.grow hB).cells; obtain ⟨b0, b1⟩ := (hb.grow hB).cells; obtain ⟨r0, r1⟩ := (hr.grow hB).cells; obtain ⟨rf0, rf1⟩ := (hr.grow hB).frozen))
    exact end_set (v := tru B) Tryz.results257 rfl (by omega) (bW2 w _ _) hB hr
set_option maxRecDepth 100000 in
theorem hold_57 (n : Int) (w : World) : Calls Tryz.prog 228 #[.int .i64 n] w fun e w' => e = .returned (.bool (n != 0)) ∧ Below w.heap.size w w' := by
  go_enter Tryz.func228, Tryz.ntmps228
  go_wp2
  go_ret
  exact ⟨rfl, Below.refl _ _⟩
set_option maxRecDepth 100000 in
set_option maxHeartbeats 1000000 in
theorem cmp_57 (a b : Vl) (p p2 : Nat) (B : Bool) (w : World) (hp : w.cell? ⟨p, 0, none⟩ = some (.bool B)) (hp2 : w.cell? ⟨p2, 0, none⟩ = some (.func (.func 228) #[] #[]))
    (hc : noB a b = false → ∀ W, Calls Tryz.prog 258 #[vlV a, vlV b] W fun e w' => e = .returned (.int .i64 (ordI a b)) ∧ Below W.heap.size W w') :
    Calls Tryz.prog 257 #[vlV a, vlV b, .pointer (some ⟨p, 0, none⟩), .pointer (some ⟨p2, 0, none⟩)] w fun e w' => e = .returned (vlV (tru (if noB a b = true then B else (ordI a b != 0)))) ∧ Below w.heap.size w w' := by
  obtain ⟨ha, hb, hr⟩ := pW2 w a b
  have hB : Below (W2 w a b).heap.size (W2 w a b) (W2 w a b) := Below.refl _ _
  have hn := fun W => eitherNaN_b a b W
  have hpk : ∀ W, Below (W2 w a b).heap.size (W2 w a b) W → W.cell? ⟨p, 0, none⟩ = some (.bool B) := fun W h => keepC hp ((bW2 w a b).trans (h.mono (bW2 w a b).size))
  have hpk2 : ∀ W, Below (W2 w a b).heap.size (W2 w a b) W → W.cell? ⟨p2, 0, none⟩ = some (.func (.func 228) #[] #[]) := fun W h => keepC hp2 ((bW2 w a b).trans (h.mono (bW2 w a b).size))
  have hlt2 : p2 < w.heap.size := World.block_lt_of_cell? w _ hp2
  clear hp hp2
  cases h1 : noB a b
  · rw [if_neg (by simp)]
    replace hc := hc h1
    rw [h1] at hn
    have hh := fun W => hold_57 (ordI a b) W
    have ht := fun W => truth_any (ordI a b != 0) W
    generalize (ordI a b != 0) = T at *
    generalize ordI a b = n at *
    clear h1
    unfold vlV at *
    go_enter Tryz.func257, Tryz.ntmps257
    go_wp2_with (first | (go_at_call 255; with_reducible refine (hn _).mono ?_; rintro e w2 ⟨rfl, hb2⟩; replace hB := hB.trans (hb2.mono hB.size); obtain ⟨a0, a1⟩ := (ha.grow hB).cells; obtain ⟨b0, b1⟩ := (hb.grow hB).cells; obtain ⟨r0, r1⟩ := (hr.grow hB).cells; obtain ⟨rf0, rf1⟩ := (hr.grow hB).frozen))
    replace hB := hB.drew
    obtain ⟨a0, a1⟩ := (ha.grow hB).cells
    obtain ⟨b0, b1⟩ := (hb.grow hB).cells
    obtain ⟨r0, r1⟩ := (hr.grow hB).cells
    obtain ⟨rf0, rf1⟩ := (hr.grow hB).frozen
    go_region_held3 (fun W => W.cell? ⟨w.heap.size, 0, none⟩ = some (.int .i64 a.kind) ∧ W.cell? ⟨w.heap.size, 1, none⟩ = some (.int .i64 a.n) ∧ W.cell? ⟨w.heap.size + 1, 0, none⟩ = some (.int .i64 b.kind) ∧ W.cell? ⟨w.heap.size + 1, 1, none⟩ = some (.int .i64 b.n) ∧ W.cell? ⟨p2, 0, none⟩ = some (.func (.func 228) #[] #[]))
      (first | exact ⟨a0, a1, b0, b1, hpk2 _ hB⟩ | exact ⟨cset a0 (by omega), cset a1 (by omega), cset b0 (by omega), cset b1 (by omega), cset (hpk2 _ hB) (by omega)⟩)
      (first | (go_at_call 258; with_reducible refine (hc _).mono ?_; rintro e w2 ⟨rfl, hb2⟩; replace hB := hB.trans (hb2.mono hB.size); obtain ⟨a0, a1⟩ := (ha.grow hB).cells; obtain ⟨b0, b1⟩ := (hb.grow hB).cells; obtain ⟨r0, r1⟩ := (hr.grow hB).cells; obtain ⟨rf0, rf1⟩ := (hr.grow hB).frozen) | (go_at_call 228; with_reducible refine (hh _).mono ?_; rintro e w2 ⟨rfl, hb2⟩; replace hB := hB.trans (hb2.mono hB.size); obtain ⟨a0, a1⟩ := (ha.grow hB).cells; obtain ⟨b0, b1⟩ := (hb.grow hB).cells; obtain ⟨r0, r1⟩ := (hr.grow hB).cells; obtain ⟨rf0, rf1⟩ := (hr.grow hB).frozen) | (go_at_call 235; with_reducible refine (ht _).mono ?_; rintro e w2 ⟨rfl, hb2⟩; replace hB := hB.trans (hb2.mono hB.size); obtain ⟨a0, a1⟩ := (ha.grow hB).cells; obtain ⟨b0, b1⟩ := (hb.grow hB).cells; obtain ⟨r0, r1⟩ := (hr.grow hB).cells; obtain ⟨rf0, rf1⟩ := (hr.grow hB).frozen))
    all_goals
      go_wp2
      exact end_set (v := tru T) Tryz.results257 rfl (by omega) (bW2 w _ _) hB hr
  · rw [if_pos rfl]
    rw [h1] at hn
    have ht := fun W => truth_any B W
    clear h1 hc hpk2
    unfold vlV at *
    go_enter Tryz.func257, Tryz.ntmps257
    go_wp2_with (first | (go_at_call 255; with_reducible refine (hn _).mono ?_; rintro e w2 ⟨rfl, hb2⟩; replace hB := hB.trans (hb2.mono hB.size); obtain ⟨a0, a1⟩ := (ha.grow hB).cells; obtain ⟨b0, b1⟩ := (hb.grow hB).cells; obtain ⟨r0, r1⟩ := (hr.grow hB).cells; obtain ⟨rf0, rf1⟩ := (hr.grow hB).frozen; have pc := hpk _ hB) | (go_at_call 235; with_reducible refine (ht _).mono ?_; rintro e w2 ⟨rfl, hb2⟩; replace hB := hB.trans (hb2.mono hB.size); obtain ⟨a0, a1⟩ := (ha.grow hB).cells; obtain ⟨b0, b1⟩ := (hb.grow hB).cells; obtain ⟨r0, r1⟩ := (hr.grow hB).cells; obtain ⟨rf0, rf1⟩ := (hr.grow hB).frozen))
    exact end_set (v := tru B) Tryz.results257 rfl (by omega) (bW2 w _ _) hB hr
set_option maxRecDepth 100000 in
theorem hold_58 (n : Int) (w : World) : Calls Tryz.prog 229 #[.int .i64 n] w fun e w' => e = .returned (.bool (decide (n < 0))) ∧ Below w.heap.size w w' := by
  go_enter Tryz.func229, Tryz.ntmps229
  go_wp2
  go_ret
  exact ⟨rfl, Below.refl _ _⟩
set_option maxRecDepth 100000 in
set_option maxHeartbeats 1000000 in
theorem cmp_58 (a b : Vl) (p p2 : Nat) (B : Bool) (w : World) (hp : w.cell? ⟨p, 0, none⟩ = some (.bool B)) (hp2 : w.cell? ⟨p2, 0, none⟩ = some (.func (.func 229) #[] #[]))
    (hc : noB a b = false → ∀ W, Calls Tryz.prog 258 #[vlV a, vlV b] W fun e w' => e = .returned (.int .i64 (ordI a b)) ∧ Below W.heap.size W w') :
    Calls Tryz.prog 257 #[vlV a, vlV b, .pointer (some ⟨p, 0, none⟩), .pointer (some ⟨p2, 0, none⟩)] w fun e w' => e = .returned (vlV (tru (if noB a b = true then B else (decide (ordI a b < 0))))) ∧ Below w.heap.size w w' := by
  obtain ⟨ha, hb, hr⟩ := pW2 w a b
  have hB : Below (W2 w a b).heap.size (W2 w a b) (W2 w a b) := Below.refl _ _
  have hn := fun W => eitherNaN_b a b W
  have hpk : ∀ W, Below (W2 w a b).heap.size (W2 w a b) W → W.cell? ⟨p, 0, none⟩ = some (.bool B) := fun W h => keepC hp ((bW2 w a b).trans (h.mono (bW2 w a b).size))
  have hpk2 : ∀ W, Below (W2 w a b).heap.size (W2 w a b) W → W.cell? ⟨p2, 0, none⟩ = some (.func (.func 229) #[] #[]) := fun W h => keepC hp2 ((bW2 w a b).trans (h.mono (bW2 w a b).size))
  have hlt2 : p2 < w.heap.size := World.block_lt_of_cell? w _ hp2
  clear hp hp2
  cases h1 : noB a b
  · rw [if_neg (by simp)]
    replace hc := hc h1
    rw [h1] at hn
    have hh := fun W => hold_58 (ordI a b) W
    have ht := fun W => truth_any (decide (ordI a b < 0)) W
    generalize (decide (ordI a b < 0)) = T at *
    generalize ordI a b = n at *
    clear h1
    unfold vlV at *
    go_enter Tryz.func257, Tryz.ntmps257
    go_wp2_with (first | (go_at_call 255; with_reducible refine (hn _).mono ?_; rintro e w2 ⟨rfl, hb2⟩; replace hB := hB.trans (hb2.mono hB.size); obtain ⟨a0, a1⟩ := (ha.grow hB).cells; obtain ⟨b0, b1⟩ := (hb.grow hB).cells; obtain ⟨r0, r1⟩ := (hr.grow hB).cells; obtain ⟨rf0, rf1⟩ := (hr.grow hB).frozen))
    replace hB := hB.drew
    obtain ⟨a0, a1⟩ := (ha.grow hB).cells
    obtain ⟨b0, b1⟩ := (hb.grow hB).cells
    obtain ⟨r0, r1⟩ := (hr.grow hB).cells
    obtain ⟨rf0, rf1⟩ := (hr.grow hB).frozen
    go_region_held3 (fun W => W.cell? ⟨w.heap.size, 0, none⟩ = some (.int .i64 a.kind) ∧ W.cell? ⟨w.heap.size, 1, none⟩ = some (.int .i64 a.n) ∧ W.cell? ⟨w.heap.size + 1, 0, none⟩ = some (.int .i64 b.kind) ∧ W.cell? ⟨w.heap.size + 1, 1, none⟩ = some (.int .i64 b.n) ∧ W.cell? ⟨p2, 0, none⟩ = some (.func (.func 229) #[] #[]))
      (first | exact ⟨a0, a1, b0, b1, hpk2 _ hB⟩ | exact ⟨cset a0 (by omega), cset a1 (by omega), cset b0 (by omega), cset b1 (by omega), cset (hpk2 _ hB) (by omega)⟩)
      (first | (go_at_call 258; with_reducible refine (hc _).mono ?_; rintro e w2 ⟨rfl, hb2⟩; replace hB := hB.trans (hb2.mono hB.size); obtain ⟨a0, a1⟩ := (ha.grow hB).cells; obtain ⟨b0, b1⟩ := (hb.grow hB).cells; obtain ⟨r0, r1⟩ := (hr.grow hB).cells; obtain ⟨rf0, rf1⟩ := (hr.grow hB).frozen) | (go_at_call 229; with_reducible refine (hh _).mono ?_; rintro e w2 ⟨rfl, hb2⟩; replace hB := hB.trans (hb2.mono hB.size); obtain ⟨a0, a1⟩ := (ha.grow hB).cells; obtain ⟨b0, b1⟩ := (hb.grow hB).cells; obtain ⟨r0, r1⟩ := (hr.grow hB).cells; obtain ⟨rf0, rf1⟩ := (hr.grow hB).frozen) | (go_at_call 235; with_reducible refine (ht _).mono ?_; rintro e w2 ⟨rfl, hb2⟩; replace hB := hB.trans (hb2.mono hB.size); obtain ⟨a0, a1⟩ := (ha.grow hB).cells; obtain ⟨b0, b1⟩ := (hb.grow hB).cells; obtain ⟨r0, r1⟩ := (hr.grow hB).cells; obtain ⟨rf0, rf1⟩ := (hr.grow hB).frozen))
    all_goals
      go_wp2
      exact end_set (v := tru T) Tryz.results257 rfl (by omega) (bW2 w _ _) hB hr
  · rw [if_pos rfl]
    rw [h1] at hn
    have ht := fun W => truth_any B W
    clear h1 hc hpk2
    unfold vlV at *
    go_enter Tryz.func257, Tryz.ntmps257
    go_wp2_with (first | (go_at_call 255; with_reducible refine (hn _).mono ?_; rintro e w2 ⟨rfl, hb2⟩; replace hB := hB.trans (hb2.mono hB.size); obtain ⟨a0, a1⟩ := (ha.grow hB).cells; obtain ⟨b0, b1⟩ := (hb.grow hB).cells; obtain ⟨r0, r1⟩ := (hr.grow hB).cells; obtain ⟨rf0, rf1⟩ := (hr.grow hB).frozen; have pc := hpk _ hB) | (go_at_call 235; with_reducible refine (ht _).mono ?_; rintro e w2 ⟨rfl, hb2⟩; replace hB := hB.trans (hb2.mono hB.size); obtain ⟨a0, a1⟩ := (ha.grow hB).cells; obtain ⟨b0, b1⟩ := (hb.grow hB).cells; obtain ⟨r0, r1⟩ := (hr.grow hB).cells; obtain ⟨rf0, rf1⟩ := (hr.grow hB).frozen))
    exact end_set (v := tru B) Tryz.results257 rfl (by omega) (bW2 w _ _) hB hr
set_option maxRecDepth 100000 in
theorem hold_59 (n : Int) (w : World) : Calls Tryz.prog 230 #[.int .i64 n] w fun e w' => e = .returned (.bool (decide (n ≤ 0))) ∧ Below w.heap.size w w' := by
  go_enter Tryz.func230, Tryz.ntmps230
  go_wp2
  go_ret
  exact ⟨rfl, Below.refl _ _⟩
set_option maxRecDepth 100000 in
set_option maxHeartbeats 1000000 in
theorem cmp_59 (a b : Vl) (p p2 : Nat) (B : Bool) (w : World) (hp : w.cell? ⟨p, 0, none⟩ = some (.bool B)) (hp2 : w.cell? ⟨p2, 0, none⟩ = some (.func (.func 230) #[] #[]))
    (hc : noB a b = false → ∀ W, Calls Tryz.prog 258 #[vlV a, vlV b] W fun e w' => e = .returned (.int .i64 (ordI a b)) ∧ Below W.heap.size W w') :
    Calls Tryz.prog 257 #[vlV a, vlV b, .pointer (some ⟨p, 0, none⟩), .pointer (some ⟨p2, 0, none⟩)] w fun e w' => e = .returned (vlV (tru (if noB a b = true then B else (decide (ordI a b ≤ 0))))) ∧ Below w.heap.size w w' := by
  obtain ⟨ha, hb, hr⟩ := pW2 w a b
  have hB : Below (W2 w a b).heap.size (W2 w a b) (W2 w a b) := Below.refl _ _
  have hn := fun W => eitherNaN_b a b W
  have hpk : ∀ W, Below (W2 w a b).heap.size (W2 w a b) W → W.cell? ⟨p, 0, none⟩ = some (.bool B) := fun W h => keepC hp ((bW2 w a b).trans (h.mono (bW2 w a b).size))
  have hpk2 : ∀ W, Below (W2 w a b).heap.size (W2 w a b) W → W.cell? ⟨p2, 0, none⟩ = some (.func (.func 230) #[] #[]) := fun W h => keepC hp2 ((bW2 w a b).trans (h.mono (bW2 w a b).size))
  have hlt2 : p2 < w.heap.size := World.block_lt_of_cell? w _ hp2
  clear hp hp2
  cases h1 : noB a b
  · rw [if_neg (by simp)]
    replace hc := hc h1
    rw [h1] at hn
    have hh := fun W => hold_59 (ordI a b) W
    have ht := fun W => truth_any (decide (ordI a b ≤ 0)) W
    generalize (decide (ordI a b ≤ 0)) = T at *
    generalize ordI a b = n at *
    clear h1
    unfold vlV at *
    go_enter Tryz.func257, Tryz.ntmps257
    go_wp2_with (first | (go_at_call 255; with_reducible refine (hn _).mono ?_; rintro e w2 ⟨rfl, hb2⟩; replace hB := hB.trans (hb2.mono hB.size); obtain ⟨a0, a1⟩ := (ha.grow hB).cells; obtain ⟨b0, b1⟩ := (hb.grow hB).cells; obtain ⟨r0, r1⟩ := (hr.grow hB).cells; obtain ⟨rf0, rf1⟩ := (hr.grow hB).frozen))
    replace hB := hB.drew
    obtain ⟨a0, a1⟩ := (ha.grow hB).cells
    obtain ⟨b0, b1⟩ := (hb.grow hB).cells
    obtain ⟨r0, r1⟩ := (hr.grow hB).cells
    obtain ⟨rf0, rf1⟩ := (hr.grow hB).frozen
    go_region_held3 (fun W => W.cell? ⟨w.heap.size, 0, none⟩ = some (.int .i64 a.kind) ∧ W.cell? ⟨w.heap.size, 1, none⟩ = some (.int .i64 a.n) ∧ W.cell? ⟨w.heap.size + 1, 0, none⟩ = some (.int .i64 b.kind) ∧ W.cell? ⟨w.heap.size + 1, 1, none⟩ = some (.int .i64 b.n) ∧ W.cell? ⟨p2, 0, none⟩ = some (.func (.func 230) #[] #[]))
      (first | exact ⟨a0, a1, b0, b1, hpk2 _ hB⟩ | exact ⟨cset a0 (by omega), cset a1 (by omega), cset b0 (by omega), cset b1 (by omega), cset (hpk2 _ hB) (by omega)⟩)
      (first | (go_at_call 258; with_reducible refine (hc _).mono ?_; rintro e w2 ⟨rfl, hb2⟩; replace hB := hB.trans (hb2.mono hB.size); obtain ⟨a0, a1⟩ := (ha.grow hB).cells; obtain ⟨b0, b1⟩ := (hb.grow hB).cells; obtain ⟨r0, r1⟩ := (hr.grow hB).cells; obtain ⟨rf0, rf1⟩ := (hr.grow hB).frozen) | (go_at_call 230; with_reducible refine (hh _).mono ?_; rintro e w2 ⟨rfl, hb2⟩; replace hB := hB.trans (hb2.mono hB.size); obtain ⟨a0, a1⟩ := (ha.grow hB).cells; obtain ⟨b0, b1⟩ := (hb.grow hB).cells; obtain ⟨r0, r1⟩ := (hr.grow hB).cells; obtain ⟨rf0, rf1⟩ := (hr.grow hB).frozen) | (go_at_call 235; with_reducible refine (ht _).mono ?_; rintro e w2 ⟨rfl, hb2⟩; replace hB := hB.trans (hb2.mono hB.size); obtain ⟨a0, a1⟩ := (ha.grow hB).cells; obtain ⟨b0, b1⟩ := (hb.grow hB).cells; obtain ⟨r0, r1⟩ := (hr.grow hB).cells; obtain ⟨rf0, rf1⟩ := (hr.grow hB).frozen))
    all_goals
      go_wp2
      exact end_set (v := tru T) Tryz.results257 rfl (by omega) (bW2 w _ _) hB hr
  · rw [if_pos rfl]
    rw [h1] at hn
    have ht := fun W => truth_any B W
    clear h1 hc hpk2
    unfold vlV at *
    go_enter Tryz.func257, Tryz.ntmps257
    go_wp2_with (first | (go_at_call 255; with_reducible refine (hn _).mono ?_; rintro e w2 ⟨rfl, hb2⟩; replace hB := hB.trans (hb2.mono hB.size); obtain ⟨a0, a1⟩ := (ha.grow hB).cells; obtain ⟨b0, b1⟩ := (hb.grow hB).cells; obtain ⟨r0, r1⟩ := (hr.grow hB).cells; obtain ⟨rf0, rf1⟩ := (hr.grow hB).frozen; have pc := hpk _ hB) | (go_at_call 235; with_reducible refine (ht _).mono ?_; rintro e w2 ⟨rfl, hb2⟩; replace hB := hB.trans (hb2.mono hB.size); obtain ⟨a0, a1⟩ := (ha.grow hB).cells; obtain ⟨b0, b1⟩ := (hb.grow hB).cells; obtain ⟨r0, r1⟩ := (hr.grow hB).cells; obtain ⟨rf0, rf1⟩ := (hr.grow hB).frozen))
    exact end_set (v := tru B) Tryz.results257 rfl (by omega) (bW2 w _ _) hB hr
set_option maxRecDepth 100000 in
theorem hold_60 (n : Int) (w : World) : Calls Tryz.prog 231 #[.int .i64 n] w fun e w' => e = .returned (.bool (decide (0 < n))) ∧ Below w.heap.size w w' := by
  go_enter Tryz.func231, Tryz.ntmps231
  go_wp2
  go_ret
  exact ⟨rfl, Below.refl _ _⟩
set_option maxRecDepth 100000 in
set_option maxHeartbeats 1000000 in
theorem cmp_60 (a b : Vl) (p p2 : Nat) (B : Bool) (w : World) (hp : w.cell? ⟨p, 0, none⟩ = some (.bool B)) (hp2 : w.cell? ⟨p2, 0, none⟩ = some (.func (.func 231) #[] #[]))
    (hc : noB a b = false → ∀ W, Calls Tryz.prog 258 #[vlV a, vlV b] W fun e w' => e = .returned (.int .i64 (ordI a b)) ∧ Below W.heap.size W w') :
    Calls Tryz.prog 257 #[vlV a, vlV b, .pointer (some ⟨p, 0, none⟩), .pointer (some ⟨p2, 0, none⟩)] w fun e w' => e = .returned (vlV (tru (if noB a b = true then B else (decide (0 < ordI a b))))) ∧ Below w.heap.size w w' := by
  obtain ⟨ha, hb, hr⟩ := pW2 w a b
  have hB : Below (W2 w a b).heap.size (W2 w a b) (W2 w a b) := Below.refl _ _
  have hn := fun W => eitherNaN_b a b W
  have hpk : ∀ W, Below (W2 w a b).heap.size (W2 w a b) W → W.cell? ⟨p, 0, none⟩ = some (.bool B) := fun W h => keepC hp ((bW2 w a b).trans (h.mono (bW2 w a b).size))
  have hpk2 : ∀ W, Below (W2 w a b).heap.size (W2 w a b) W → W.cell? ⟨p2, 0, none⟩ = some (.func (.func 231) #[] #[]) := fun W h => keepC hp2 ((bW2 w a b).trans (h.mono (bW2 w a b).size))
  have hlt2 : p2 < w.heap.size := World.block_lt_of_cell? w _ hp2
  clear hp hp2
  cases h1 : noB a b
  · rw [if_neg (by simp)]
    replace hc := hc h1
    rw [h1] at hn
    have hh := fun W => hold_60 (ordI a b) W
    have ht := fun W => truth_any (decide (0 < ordI a b)) W
    generalize (decide (0 < ordI a b)) = T at *
    generalize ordI a b = n at *
    clear h1
    unfold vlV at *
    go_enter Tryz.func257, Tryz.ntmps257
    go_wp2_with (first | (go_at_call 255; with_reducible refine (hn _).mono ?_; rintro e w2 ⟨rfl, hb2⟩; replace hB := hB.trans (hb2.mono hB.size); obtain ⟨a0, a1⟩ := (ha.grow hB).cells; obtain ⟨b0, b1⟩ := (hb.grow hB).cells; obtain ⟨r0, r1⟩ := (hr.grow hB).cells; obtain ⟨rf0, rf1⟩ := (hr.grow hB).frozen))
    replace hB := hB.drew
    obtain ⟨a0, a1⟩ := (ha.grow hB).cells
    obtain ⟨b0, b1⟩ := (hb.grow hB).cells
    obtain ⟨r0, r1⟩ := (hr.grow hB).cells
    obtain ⟨rf0, rf1⟩ := (hr.grow hB).frozen
    go_region_held3 (fun W => W.cell? ⟨w.heap.size, 0, none⟩ = some (.int .i64 a.kind) ∧ W.cell? ⟨w.heap.size, 1, none⟩ = some (.int .i64 a.n) ∧ W.cell? ⟨w.heap.size + 1, 0, none⟩ = some (.int .i64 b.kind) ∧ W.cell? ⟨w.heap.size + 1, 1, none⟩ = some (.int .i64 b.n) ∧ W.cell? ⟨p2, 0, none⟩ = some (.func (.func 231) #[] #[]))
      (first | exact ⟨a0, a1, b0, b1, hpk2 _ hB⟩ | exact ⟨cset a0 (by omega), cset a1 (by omega), cset b0 (by omega), cset b1 (by omega), cset (hpk2 _ hB) (by omega)⟩)
      (first | (go_at_call 258; with_reducible refine (hc _).mono ?_; rintro e w2 ⟨rfl, hb2⟩; replace hB := hB.trans (hb2.mono hB.size); obtain ⟨a0, a1⟩ := (ha.grow hB).cells; obtain ⟨b0, b1⟩ := (hb.grow hB).cells; obtain ⟨r0, r1⟩ := (hr.grow hB).cells; obtain ⟨rf0, rf1⟩ := (hr.grow hB).frozen) | (go_at_call 231; with_reducible refine (hh _).mono ?_; rintro e w2 ⟨rfl, hb2⟩; replace hB := hB.trans (hb2.mono hB.size); obtain ⟨a0, a1⟩ := (ha.grow hB).cells; obtain ⟨b0, b1⟩ := (hb.grow hB).cells; obtain ⟨r0, r1⟩ := (hr.grow hB).cells; obtain ⟨rf0, rf1⟩ := (hr.grow hB).frozen) | (go_at_call 235; with_reducible refine (ht _).mono ?_; rintro e w2 ⟨rfl, hb2⟩; replace hB := hB.trans (hb2.mono hB.size); obtain ⟨a0, a1⟩ := (ha.grow hB).cells; obtain ⟨b0, b1⟩ := (hb.grow hB).cells; obtain ⟨r0, r1⟩ := (hr.grow hB).cells; obtain ⟨rf0, rf1⟩ := (hr.grow hB).frozen))
    all_goals
      go_wp2
      exact end_set (v := tru T) Tryz.results257 rfl (by omega) (bW2 w _ _) hB hr
  · rw [if_pos rfl]
    rw [h1] at hn
    have ht := fun W => truth_any B W
    clear h1 hc hpk2
    unfold vlV at *
    go_enter Tryz.func257, Tryz.ntmps257
    go_wp2_with (first | (go_at_call 255; with_reducible refine (hn _).mono ?_; rintro e w2 ⟨rfl, hb2⟩; replace hB := hB.trans (hb2.mono hB.size); obtain ⟨a0, a1⟩ := (ha.grow hB).cells; obtain ⟨b0, b1⟩ := (hb.grow hB).cells; obtain ⟨r0, r1⟩ := (hr.grow hB).cells; obtain ⟨rf0, rf1⟩ := (hr.grow hB).frozen; have pc := hpk _ hB) | (go_at_call 235; with_reducible refine (ht _).mono ?_; rintro e w2 ⟨rfl, hb2⟩; replace hB := hB.trans (hb2.mono hB.size); obtain ⟨a0, a1⟩ := (ha.grow hB).cells; obtain ⟨b0, b1⟩ := (hb.grow hB).cells; obtain ⟨r0, r1⟩ := (hr.grow hB).cells; obtain ⟨rf0, rf1⟩ := (hr.grow hB).frozen))
    exact end_set (v := tru B) Tryz.results257 rfl (by omega) (bW2 w _ _) hB hr
set_option maxRecDepth 100000 in
theorem hold_61 (n : Int) (w : World) : Calls Tryz.prog 232 #[.int .i64 n] w fun e w' => e = .returned (.bool (decide (0 ≤ n))) ∧ Below w.heap.size w w' := by
  go_enter Tryz.func232, Tryz.ntmps232
  go_wp2
  go_ret
  exact ⟨rfl, Below.refl _ _⟩
set_option maxRecDepth 100000 in
set_option maxHeartbeats 1000000 in
theorem cmp_61 (a b : Vl) (p p2 : Nat) (B : Bool) (w : World) (hp : w.cell? ⟨p, 0, none⟩ = some (.bool B)) (hp2 : w.cell? ⟨p2, 0, none⟩ = some (.func (.func 232) #[] #[]))
    (hc : noB a b = false → ∀ W, Calls Tryz.prog 258 #[vlV a, vlV b] W fun e w' => e = .returned (.int .i64 (ordI a b)) ∧ Below W.heap.size W w') :
    Calls Tryz.prog 257 #[vlV a, vlV b, .pointer (some ⟨p, 0, none⟩), .pointer (some ⟨p2, 0, none⟩)] w fun e w' => e = .returned (vlV (tru (if noB a b = true then B else (decide (0 ≤ ordI a b))))) ∧ Below w.heap.size w w' := by
  obtain ⟨ha, hb, hr⟩ := pW2 w a b
  have hB : Below (W2 w a b).heap.size (W2 w a b) (W2 w a b) := Below.refl _ _
  have hn := fun W => eitherNaN_b a b W
  have hpk : ∀ W, Below (W2 w a b).heap.size (W2 w a b) W → W.cell? ⟨p, 0, none⟩ = some (.bool B) := fun W h => keepC hp ((bW2 w a b).trans (h.mono (bW2 w a b).size))
  have hpk2 : ∀ W, Below (W2 w a b).heap.size (W2 w a b) W → W.cell? ⟨p2, 0, none⟩ = some (.func (.func 232) #[] #[]) := fun W h => keepC hp2 ((bW2 w a b).trans (h.mono (bW2 w a b).size))
  have hlt2 : p2 < w.heap.size := World.block_lt_of_cell? w _ hp2
  clear hp hp2
  cases h1 : noB a b
  · rw [if_neg (by simp)]
    replace hc := hc h1
    rw [h1] at hn
    have hh := fun W => hold_61 (ordI a b) W
    have ht := fun W => truth_any (decide (0 ≤ ordI a b)) W
    generalize (decide (0 ≤ ordI a b)) = T at *
    generalize ordI a b = n at *
    clear h1
    unfold vlV at *
    go_enter Tryz.func257, Tryz.ntmps257
    go_wp2_with (first | (go_at_call 255; with_reducible refine (hn _).mono ?_; rintro e w2 ⟨rfl, hb2⟩; replace hB := hB.trans (hb2.mono hB.size); obtain ⟨a0, a1⟩ := (ha.grow hB).cells; obtain ⟨b0, b1⟩ := (hb.grow hB).cells; obtain ⟨r0, r1⟩ := (hr.grow hB).cells; obtain ⟨rf0, rf1⟩ := (hr.grow hB).frozen))
    replace hB := hB.drew
    obtain ⟨a0, a1⟩ := (ha.grow hB).cells
    obtain ⟨b0, b1⟩ := (hb.grow hB).cells
    obtain ⟨r0, r1⟩ := (hr.grow hB).cells
    obtain ⟨rf0, rf1⟩ := (hr.grow hB).frozen
    go_region_held3 (fun W => W.cell? ⟨w.heap.size, 0, none⟩ = some (.int .i64 a.kind) ∧ W.cell? ⟨w.heap.size, 1, none⟩ = some (.int .i64 a.n) ∧ W.cell? ⟨w.heap.size + 1, 0, none⟩ = some (.int .i64 b.kind) ∧ W.cell? ⟨w.heap.size + 1, 1, none⟩ = some (.int .i64 b.n) ∧ W.cell? ⟨p2, 0, none⟩ = some (.func (.func 232) #[] #[]))
      (first | exact ⟨a0, a1, b0, b1, hpk2 _ hB⟩ | exact ⟨cset a0 (by omega), cset a1 (by omega), cset b0 (by omega), cset b1 (by omega), cset (hpk2 _ hB) (by omega)⟩)
      (first | (go_at_call 258; with_reducible refine (hc _).mono ?_; rintro e w2 ⟨rfl, hb2⟩; replace hB := hB.trans (hb2.mono hB.size); obtain ⟨a0, a1⟩ := (ha.grow hB).cells; obtain ⟨b0, b1⟩ := (hb.grow hB).cells; obtain ⟨r0, r1⟩ := (hr.grow hB).cells; obtain ⟨rf0, rf1⟩ := (hr.grow hB).frozen) | (go_at_call 232; with_reducible refine (hh _).mono ?_; rintro e w2 ⟨rfl, hb2⟩; replace hB := hB.trans (hb2.mono hB.size); obtain ⟨a0, a1⟩ := (ha.grow hB).cells; obtain ⟨b0, b1⟩ := (hb.grow hB).cells; obtain ⟨r0, r1⟩ := (hr.grow hB).cells; obtain ⟨rf0, rf1⟩ := (hr.grow hB).frozen) | (go_at_call 235; with_reducible refine (ht _).mono ?_; rintro e w2 ⟨rfl, hb2⟩; replace hB := hB.trans (hb2.mono hB.size); obtain ⟨a0, a1⟩ := (ha.grow hB).cells; obtain ⟨b0, b1⟩ := (hb.grow hB).cells; obtain ⟨r0, r1⟩ := (hr.grow hB).cells; obtain ⟨rf0, rf1⟩ := (hr.grow hB).frozen))
    all_goals
      go_wp2
      exact end_set (v := tru T) Tryz.results257 rfl (by omega) (bW2 w _ _) hB hr
  · rw [if_pos rfl]
    rw [h1] at hn
    have ht := fun W => truth_any B W
    clear h1 hc hpk2
    unfold vlV at *
    go_enter Tryz.func257, Tryz.ntmps257
    go_wp2_with (first | (go_at_call 255; with_reducible refine (hn _).mono ?_; rintro e w2 ⟨rfl, hb2⟩; replace hB := hB.trans (hb2.mono hB.size); obtain ⟨a0, a1⟩ := (ha.grow hB).cells; obtain ⟨b0, b1⟩ := (hb.grow hB).cells; obtain ⟨r0, r1⟩ := (hr.grow hB).cells; obtain ⟨rf0, rf1⟩ := (hr.grow hB).frozen; have pc := hpk _ hB) | (go_at_call 235; with_reducible refine (ht _).mono ?_; rintro e w2 ⟨rfl, hb2⟩; replace hB := hB.trans (hb2.mono hB.size); obtain ⟨a0, a1⟩ := (ha.grow hB).cells; obtain ⟨b0, b1⟩ := (hb.grow hB).cells; obtain ⟨r0, r1⟩ := (hr.grow hB).cells; obtain ⟨rf0, rf1⟩ := (hr.grow hB).frozen))
    exact end_set (v := tru B) Tryz.results257 rfl (by omega) (bW2 w _ _) hB hr
set_option maxRecDepth 100000 in
set_option maxHeartbeats 1000000 in
theorem unl_81 (a b : Vl) (p : Nat) (p2 : Nat) (v : Vl) (w : World) (hp : w.cell? ⟨p, 0, none⟩ = some (.func (.func 254) #[] #[.pointer (some ⟨p2, 0, none⟩)]))
    (hc : ¬ (a.kind = 2 ∨ b.kind = 2) → ∀ W, Below w.heap.size w W → Calls Tryz.prog 254 #[vlV a, vlV b, .pointer (some ⟨p2, 0, none⟩)] W fun e w' => e = .returned (vlV v) ∧ Below W.heap.size W w') :
    Calls Tryz.prog 259 #[vlV a, vlV b, .pointer (some ⟨p, 0, none⟩)] w fun e w' => e = .returned (vlV (nulls a b v)) ∧ Below w.heap.size w w' := by
  obtain ⟨ha, hb, hr⟩ := pW2 w a b
  have hB : Below (W2 w a b).heap.size (W2 w a b) (W2 w a b) := Below.refl _ _
  have hnu := fun W => null_b W
  have hp3 : (((w.alloc (.cells #[.int .i64 a.kind, .int .i64 a.n] 34)).alloc (.cells #[.int .i64 b.kind, .int .i64 b.n] 34)).alloc (.cells #[.int .i64 0, .int .i64 0] 34)).cell? ⟨p, 0, none⟩ = some (.func (.func 254) #[] #[.pointer (some ⟨p2, 0, none⟩)]) := keepC hp (bW2 w a b)
  by_cases h1 : a.kind = 2 ∨ b.kind = 2
  · have e : nulls a b v = nul := by rw [nulls, if_pos h1]
    rw [e]; clear e
    have h1b : ((a.kind == 2) = true) ∨ ((a.kind == 2) = false ∧ (b.kind == 2) = true) := by
      by_cases h : a.kind = 2
      · exact .inl (by simpa using h)
      · exact .inr ⟨by simpa using h, by simpa [h] using h1⟩
    clear h1 hc
    unfold vlV at *
    rcases h1b with h2 | ⟨h2, h3⟩
    · go_enter Tryz.func259, Tryz.ntmps259
      go_wp2_with (first | (go_at_call 135; with_reducible refine (hnu _).mono ?_; rintro e w2 ⟨rfl, hb2⟩; replace hB := hB.trans (hb2.mono hB.size); obtain ⟨a0, a1⟩ := (ha.grow hB).cells; obtain ⟨b0, b1⟩ := (hb.grow hB).cells; obtain ⟨r0, r1⟩ := (hr.grow hB).cells; obtain ⟨rf0, rf1⟩ := (hr.grow hB).frozen))
      exact end_set (v := nul) Tryz.results259 rfl (by omega) (bW2 w _ _) hB hr
    · go_enter Tryz.func259, Tryz.ntmps259
      go_wp2_with (first | (go_at_call 135; with_reducible refine (hnu _).mono ?_; rintro e w2 ⟨rfl, hb2⟩; replace hB := hB.trans (hb2.mono hB.size); obtain ⟨a0, a1⟩ := (ha.grow hB).cells; obtain ⟨b0, b1⟩ := (hb.grow hB).cells; obtain ⟨r0, r1⟩ := (hr.grow hB).cells; obtain ⟨rf0, rf1⟩ := (hr.grow hB).frozen))
      exact end_set (v := nul) Tryz.results259 rfl (by omega) (bW2 w _ _) hB hr
  · have e : nulls a b v = v := by rw [nulls, if_neg h1]
    rw [e]; clear e
    replace hc := hc h1 _ (bW2 w a b)
    have h2 : (a.kind == 2) = false := by simpa using fun h => h1 (.inl h)
    have h3 : (b.kind == 2) = false := by simpa using fun h => h1 (.inr h)
    clear h1
    unfold vlV at *
    go_enter Tryz.func259, Tryz.ntmps259
    go_wp2_with (first | (go_at_call 254; refine (hc).mono ?_; rintro e w2 ⟨rfl, hb2⟩; replace hB := hB.trans (hb2.mono hB.size); obtain ⟨a0, a1⟩ := (ha.grow hB).cells; obtain ⟨b0, b1⟩ := (hb.grow hB).cells; obtain ⟨r0, r1⟩ := (hr.grow hB).cells; obtain ⟨rf0, rf1⟩ := (hr.grow hB).frozen))
    exact end_set (v := v) Tryz.results259 rfl (by omega) (bW2 w _ _) hB hr
set_option maxRecDepth 100000 in
set_option maxHeartbeats 1000000 in
theorem unl_84 (a b : Vl) (p : Nat) (p2 p3 : Nat) (v : Vl) (w : World) (hp : w.cell? ⟨p, 0, none⟩ = some (.func (.func 257) #[] #[.pointer (some ⟨p2, 0, none⟩), .pointer (some ⟨p3, 0, none⟩)]))
    (hc : ¬ (a.kind = 2 ∨ b.kind = 2) → ∀ W, Below w.heap.size w W → Calls Tryz.prog 257 #[vlV a, vlV b, .pointer (some ⟨p2, 0, none⟩), .pointer (some ⟨p3, 0, none⟩)] W fun e w' => e = .returned (vlV v) ∧ Below W.heap.size W w') :
    Calls Tryz.prog 259 #[vlV a, vlV b, .pointer (some ⟨p, 0, none⟩)] w fun e w' => e = .returned (vlV (nulls a b v)) ∧ Below w.heap.size w w' := by
  obtain ⟨ha, hb, hr⟩ := pW2 w a b
  have hB : Below (W2 w a b).heap.size (W2 w a b) (W2 w a b) := Below.refl _ _
  have hnu := fun W => null_b W
  have hp3 : (((w.alloc (.cells #[.int .i64 a.kind, .int .i64 a.n] 34)).alloc (.cells #[.int .i64 b.kind, .int .i64 b.n] 34)).alloc (.cells #[.int .i64 0, .int .i64 0] 34)).cell? ⟨p, 0, none⟩ = some (.func (.func 257) #[] #[.pointer (some ⟨p2, 0, none⟩), .pointer (some ⟨p3, 0, none⟩)]) := keepC hp (bW2 w a b)
  by_cases h1 : a.kind = 2 ∨ b.kind = 2
  · have e : nulls a b v = nul := by rw [nulls, if_pos h1]
    rw [e]; clear e
    have h1b : ((a.kind == 2) = true) ∨ ((a.kind == 2) = false ∧ (b.kind == 2) = true) := by
      by_cases h : a.kind = 2
      · exact .inl (by simpa using h)
      · exact .inr ⟨by simpa using h, by simpa [h] using h1⟩
    clear h1 hc
    unfold vlV at *
    rcases h1b with h2 | ⟨h2, h3⟩
    · go_enter Tryz.func259, Tryz.ntmps259
      go_wp2_with (first | (go_at_call 135; with_reducible refine (hnu _).mono ?_; rintro e w2 ⟨rfl, hb2⟩; replace hB := hB.trans (hb2.mono hB.size); obtain ⟨a0, a1⟩ := (ha.grow hB).cells; obtain ⟨b0, b1⟩ := (hb.grow hB).cells; obtain ⟨r0, r1⟩ := (hr.grow hB).cells; obtain ⟨rf0, rf1⟩ := (hr.grow hB).frozen))
      exact end_set (v := nul) Tryz.results259 rfl (by omega) (bW2 w _ _) hB hr
    · go_enter Tryz.func259, Tryz.ntmps259
      go_wp2_with (first | (go_at_call 135; with_reducible refine (hnu _).mono ?_; rintro e w2 ⟨rfl, hb2⟩; replace hB := hB.trans (hb2.mono hB.size); obtain ⟨a0, a1⟩ := (ha.grow hB).cells; obtain ⟨b0, b1⟩ := (hb.grow hB).cells; obtain ⟨r0, r1⟩ := (hr.grow hB).cells; obtain ⟨rf0, rf1⟩ := (hr.grow hB).frozen))
      exact end_set (v := nul) Tryz.results259 rfl (by omega) (bW2 w _ _) hB hr
  · have e : nulls a b v = v := by rw [nulls, if_neg h1]
    rw [e]; clear e
    replace hc := hc h1 _ (bW2 w a b)
    have h2 : (a.kind == 2) = false := by simpa using fun h => h1 (.inl h)
    have h3 : (b.kind == 2) = false := by simpa using fun h => h1 (.inr h)
    clear h1
    unfold vlV at *
    go_enter Tryz.func259, Tryz.ntmps259
    go_wp2_with (first | (go_at_call 257; refine (hc).mono ?_; rintro e w2 ⟨rfl, hb2⟩; replace hB := hB.trans (hb2.mono hB.size); obtain ⟨a0, a1⟩ := (ha.grow hB).cells; obtain ⟨b0, b1⟩ := (hb.grow hB).cells; obtain ⟨r0, r1⟩ := (hr.grow hB).cells; obtain ⟨rf0, rf1⟩ := (hr.grow hB).frozen))
    exact end_set (v := v) Tryz.results259 rfl (by omega) (bW2 w _ _) hB hr
set_option maxRecDepth 100000 in
set_option maxHeartbeats 1000000 in
theorem unl_63 (a b : Vl) (p : Nat)  (v : Vl) (w : World) (hp : w.cell? ⟨p, 0, none⟩ = some (.func (.func 234) #[] #[]))
    (hc : ¬ (a.kind = 2 ∨ b.kind = 2) → ∀ W, Below w.heap.size w W → Calls Tryz.prog 234 #[vlV a, vlV b] W fun e w' => e = .returned (vlV v) ∧ Below W.heap.size W w') :
    Calls Tryz.prog 259 #[vlV a, vlV b, .pointer (some ⟨p, 0, none⟩)] w fun e w' => e = .returned (vlV (nulls a b v)) ∧ Below w.heap.size w w' := by
  obtain ⟨ha, hb, hr⟩ := pW2 w a b
  have hB : Below (W2 w a b).heap.size (W2 w a b) (W2 w a b) := Below.refl _ _
  have hnu := fun W => null_b W
  have hp3 : (((w.alloc (.cells #[.int .i64 a.kind, .int .i64 a.n] 34)).alloc (.cells #[.int .i64 b.kind, .int .i64 b.n] 34)).alloc (.cells #[.int .i64 0, .int .i64 0] 34)).cell? ⟨p, 0, none⟩ = some (.func (.func 234) #[] #[]) := keepC hp (bW2 w a b)
  by_cases h1 : a.kind = 2 ∨ b.kind = 2
  · have e : nulls a b v = nul := by rw [nulls, if_pos h1]
    rw [e]; clear e
    have h1b : ((a.kind == 2) = true) ∨ ((a.kind == 2) = false ∧ (b.kind == 2) = true) := by
      by_cases h : a.kind = 2
      · exact .inl (by simpa using h)
      · exact .inr ⟨by simpa using h, by simpa [h] using h1⟩
    clear h1 hc
    unfold vlV at *
    rcases h1b with h2 | ⟨h2, h3⟩
    · go_enter Tryz.func259, Tryz.ntmps259
      go_wp2_with (first | (go_at_call 135; with_reducible refine (hnu _).mono ?_; rintro e w2 ⟨rfl, hb2⟩; replace hB := hB.trans (hb2.mono hB.size); obtain ⟨a0, a1⟩ := (ha.grow hB).cells; obtain ⟨b0, b1⟩ := (hb.grow hB).cells; obtain ⟨r0, r1⟩ := (hr.grow hB).cells; obtain ⟨rf0, rf1⟩ := (hr.grow hB).frozen))
      exact end_set (v := nul) Tryz.results259 rfl (by omega) (bW2 w _ _) hB hr
    · go_enter Tryz.func259, Tryz.ntmps259
      go_wp2_with (first | (go_at_call 135; with_reducible refine (hnu _).mono ?_; rintro e w2 ⟨rfl, hb2⟩; replace hB := hB.trans (hb2.mono hB.size); obtain ⟨a0, a1⟩ := (ha.grow hB).cells; obtain ⟨b0, b1⟩ := (hb.grow hB).cells; obtain ⟨r0, r1⟩ := (hr.grow hB).cells; obtain ⟨rf0, rf1⟩ := (hr.grow hB).frozen))
      exact end_set (v := nul) Tryz.results259 rfl (by omega) (bW2 w _ _) hB hr
  · have e : nulls a b v = v := by rw [nulls, if_neg h1]
    rw [e]; clear e
    replace hc := hc h1 _ (bW2 w a b)
    have h2 : (a.kind == 2) = false := by simpa using fun h => h1 (.inl h)
    have h3 : (b.kind == 2) = false := by simpa using fun h => h1 (.inr h)
    clear h1
    unfold vlV at *
    go_enter Tryz.func259, Tryz.ntmps259
    go_wp2_with (first | (go_at_call 234; refine (hc).mono ?_; rintro e w2 ⟨rfl, hb2⟩; replace hB := hB.trans (hb2.mono hB.size); obtain ⟨a0, a1⟩ := (ha.grow hB).cells; obtain ⟨b0, b1⟩ := (hb.grow hB).cells; obtain ⟨r0, r1⟩ := (hr.grow hB).cells; obtain ⟨rf0, rf1⟩ := (hr.grow hB).frozen))
    exact end_set (v := v) Tryz.results259 rfl (by omega) (bW2 w _ _) hB hr
set_option maxRecDepth 100000 in
set_option maxHeartbeats 1000000 in
theorem unl_64 (a b : Vl) (p : Nat)  (v : Vl) (w : World) (hp : w.cell? ⟨p, 0, none⟩ = some (.func (.func 236) #[] #[]))
    (hc : ¬ (a.kind = 2 ∨ b.kind = 2) → ∀ W, Below w.heap.size w W → Calls Tryz.prog 236 #[vlV a, vlV b] W fun e w' => e = .returned (vlV v) ∧ Below W.heap.size W w') :
    Calls Tryz.prog 259 #[vlV a, vlV b, .pointer (some ⟨p, 0, none⟩)] w fun e w' => e = .returned (vlV (nulls a b v)) ∧ Below w.heap.size w w' := by
  obtain ⟨ha, hb, hr⟩ := pW2 w a b
  have hB : Below (W2 w a b).heap.size (W2 w a b) (W2 w a b) := Below.refl _ _
  have hnu := fun W => null_b W
  have hp3 : (((w.alloc (.cells #[.int .i64 a.kind, .int .i64 a.n] 34)).alloc (.cells #[.int .i64 b.kind, .int .i64 b.n] 34)).alloc (.cells #[.int .i64 0, .int .i64 0] 34)).cell? ⟨p, 0, none⟩ = some (.func (.func 236) #[] #[]) := keepC hp (bW2 w a b)
  by_cases h1 : a.kind = 2 ∨ b.kind = 2
  · have e : nulls a b v = nul := by rw [nulls, if_pos h1]
    rw [e]; clear e
    have h1b : ((a.kind == 2) = true) ∨ ((a.kind == 2) = false ∧ (b.kind == 2) = true) := by
      by_cases h : a.kind = 2
      · exact .inl (by simpa using h)
      · exact .inr ⟨by simpa using h, by simpa [h] using h1⟩
    clear h1 hc
    unfold vlV at *
    rcases h1b with h2 | ⟨h2, h3⟩
    · go_enter Tryz.func259, Tryz.ntmps259
      go_wp2_with (first | (go_at_call 135; with_reducible refine (hnu _).mono ?_; rintro e w2 ⟨rfl, hb2⟩; replace hB := hB.trans (hb2.mono hB.size); obtain ⟨a0, a1⟩ := (ha.grow hB).cells; obtain ⟨b0, b1⟩ := (hb.grow hB).cells; obtain ⟨r0, r1⟩ := (hr.grow hB).cells; obtain ⟨rf0, rf1⟩ := (hr.grow hB).frozen))
      exact end_set (v := nul) Tryz.results259 rfl (by omega) (bW2 w _ _) hB hr
    · go_enter Tryz.func259, Tryz.ntmps259
      go_wp2_with (first | (go_at_call 135; with_reducible refine (hnu _).mono ?_; rintro e w2 ⟨rfl, hb2⟩; replace hB := hB.trans (hb2.mono hB.size); obtain ⟨a0, a1⟩ := (ha.grow hB).cells; obtain ⟨b0, b1⟩ := (hb.grow hB).cells; obtain ⟨r0, r1⟩ := (hr.grow hB).cells; obtain ⟨rf0, rf1⟩ := (hr.grow hB).frozen))
      exact end_set (v := nul) Tryz.results259 rfl (by omega) (bW2 w _ _) hB hr
  · have e : nulls a b v = v := by rw [nulls, if_neg h1]
    rw [e]; clear e
    replace hc := hc h1 _ (bW2 w a b)
    have h2 : (a.kind == 2) = false := by simpa using fun h => h1 (.inl h)
    have h3 : (b.kind == 2) = false := by simpa using fun h => h1 (.inr h)
    clear h1
    unfold vlV at *
    go_enter Tryz.func259, Tryz.ntmps259
    go_wp2_with (first | (go_at_call 236; refine (hc).mono ?_; rintro e w2 ⟨rfl, hb2⟩; replace hB := hB.trans (hb2.mono hB.size); obtain ⟨a0, a1⟩ := (ha.grow hB).cells; obtain ⟨b0, b1⟩ := (hb.grow hB).cells; obtain ⟨r0, r1⟩ := (hr.grow hB).cells; obtain ⟨rf0, rf1⟩ := (hr.grow hB).frozen))
    exact end_set (v := v) Tryz.results259 rfl (by omega) (bW2 w _ _) hB hr
end Go.Proofs.YtaffplmfnincfaaGreatDoor
