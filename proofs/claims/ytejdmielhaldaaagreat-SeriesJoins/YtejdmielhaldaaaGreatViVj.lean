/- Vi; Vj. -/
import Derived.Test.YtejdmielhaldaaaGreatVfVh
/- Values: the contracts of the functions that lie in twos' map: reckoned, compared, unlessNull, and what they enclose. -/
namespace Go.Proofs.YtejdmielhaldaaaGreat
set_option linter.unusedVariables false
open Go.RowKit
attribute [local go_sem ↓] Go.wp_at_zero Go.wp_at_succ
theorem keepC {w w' : World} {q : Addr} {u : Value} (h : w.cell? q = some u) (hb : Below w.heap.size w w') : w'.cell? q = some u := (hb.cell (World.block_lt_of_cell? w _ h)).trans h
set_option maxRecDepth 100000 in
set_option maxHeartbeats 1000000 in
theorem minus_any2 (a b : Vl) (hva : IsV a) (hvb : IsV b) (oa : Ordy a) (ob : Ordy b) (w : World) : Calls Tryz.prog 103 #[vlV a, vlV b] w fun e w' => e = .returned (vlV (add a (neg b))) ∧ Below w.heap.size w w' := by
  obtain ⟨ha, hb, hr⟩ := pW2 w a b
  have hB : Below (W2 w a b).heap.size (W2 w a b) (W2 w a b).drew := (Below.refl _ _).drew
  have ht := fun W => turned_any b hvb W
  have hon : Ordy (neg b) := by rcases ordy_cases hvb ob with ⟨m, rfl, h3, h4⟩ | rfl | rfl <;> simp [Ordy, neg, pls, mns]
  have hs := fun W => sum_any a (neg b) hva (neg_isV hvb) oa hon W
  generalize add a (neg b) = R at *
  generalize neg b = u at *
  obtain ⟨a0, a1⟩ := (ha.grow hB).cells
  obtain ⟨b0, b1⟩ := (hb.grow hB).cells
  obtain ⟨r0, r1⟩ := (hr.grow hB).cells
  obtain ⟨rf0, rf1⟩ := (hr.grow hB).frozen
  clear hva hvb oa ob hon
  unfold vlV at *
  go_enter Tryz.func103, Tryz.ntmps103
  go_wp2
  go_region_held3 (fun W => W.cell? ⟨w.heap.size, 0, none⟩ = some (.int .i64 a.kind) ∧ W.cell? ⟨w.heap.size, 1, none⟩ = some (.int .i64 a.n) ∧ W.cell? ⟨w.heap.size + 1, 0, none⟩ = some (.int .i64 b.kind) ∧ W.cell? ⟨w.heap.size + 1, 1, none⟩ = some (.int .i64 b.n)) (first | exact ⟨a0, a1, b0, b1⟩ | exact ⟨cset a0 (by omega), cset a1 (by omega), cset b0 (by omega), cset b1 (by omega)⟩) (first | (go_at_call 96; with_reducible refine (ht _).mono ?_; rintro e w2 ⟨rfl, hb2⟩; replace hB := hB.trans (hb2.mono hB.size); obtain ⟨a0, a1⟩ := (ha.grow hB).cells; obtain ⟨b0, b1⟩ := (hb.grow hB).cells; obtain ⟨r0, r1⟩ := (hr.grow hB).cells; obtain ⟨rf0, rf1⟩ := (hr.grow hB).frozen) | (go_at_call 102; with_reducible refine (hs _).mono ?_; rintro e w2 ⟨rfl, hb2⟩; replace hB := hB.trans (hb2.mono hB.size); obtain ⟨a0, a1⟩ := (ha.grow hB).cells; obtain ⟨b0, b1⟩ := (hb.grow hB).cells; obtain ⟨r0, r1⟩ := (hr.grow hB).cells; obtain ⟨rf0, rf1⟩ := (hr.grow hB).frozen))
  all_goals
    go_wp2
    exact end_set (v := R) Tryz.results103 rfl (by omega) (bW2 w _ _) hB hr
set_option maxRecDepth 100000 in
set_option maxHeartbeats 1000000 in
theorem and_any (a b : Vl) (hva : IsV a) (hvb : IsV b) (w : World) : Calls Tryz.prog 114 #[vlV a, vlV b] w fun e w' => e = .returned (vlV (tru (truB a && truB b))) ∧ Below w.heap.size w w' := by
  obtain ⟨ha, hb, hr⟩ := pW2 w a b
  have hB : Below (W2 w a b).heap.size (W2 w a b) (W2 w a b) := Below.refl _ _
  have hta := fun W => true_any a hva W
  have htb := fun W => true_any b hvb W
  clear hva hvb
  cases h1 : truB a
  · rw [h1] at hta
    have htr := fun W => truth_any false W
    unfold vlV at *
    go_enter Tryz.func114, Tryz.ntmps114
    go_wp2_with (first | (go_at_call 87; with_reducible refine (hta _).mono ?_; rintro e w2 ⟨rfl, hb2⟩; replace hB := hB.trans (hb2.mono hB.size); obtain ⟨a0, a1⟩ := (ha.grow hB).cells; obtain ⟨b0, b1⟩ := (hb.grow hB).cells; obtain ⟨r0, r1⟩ := (hr.grow hB).cells; obtain ⟨rf0, rf1⟩ := (hr.grow hB).frozen) | (go_at_call 87; with_reducible refine (htb _).mono ?_; rintro e w2 ⟨rfl, hb2⟩; replace hB := hB.trans (hb2.mono hB.size); obtain ⟨a0, a1⟩ := (ha.grow hB).cells; obtain ⟨b0, b1⟩ := (hb.grow hB).cells; obtain ⟨r0, r1⟩ := (hr.grow hB).cells; obtain ⟨rf0, rf1⟩ := (hr.grow hB).frozen) | (go_at_call 115; with_reducible refine (htr _).mono ?_; rintro e w2 ⟨rfl, hb2⟩; replace hB := hB.trans (hb2.mono hB.size); obtain ⟨a0, a1⟩ := (ha.grow hB).cells; obtain ⟨b0, b1⟩ := (hb.grow hB).cells; obtain ⟨r0, r1⟩ := (hr.grow hB).cells; obtain ⟨rf0, rf1⟩ := (hr.grow hB).frozen))
    exact end_set (v := tru false) Tryz.results114 rfl (by omega) (bW2 w _ _) hB hr
  · rw [h1] at hta
    have htr := fun W => truth_any (truB b) W
    generalize truB b = T at *
    unfold vlV at *
    go_enter Tryz.func114, Tryz.ntmps114
    go_wp2_with (first | (go_at_call 87; with_reducible refine (hta _).mono ?_; rintro e w2 ⟨rfl, hb2⟩; replace hB := hB.trans (hb2.mono hB.size); obtain ⟨a0, a1⟩ := (ha.grow hB).cells; obtain ⟨b0, b1⟩ := (hb.grow hB).cells; obtain ⟨r0, r1⟩ := (hr.grow hB).cells; obtain ⟨rf0, rf1⟩ := (hr.grow hB).frozen) | (go_at_call 87; with_reducible refine (htb _).mono ?_; rintro e w2 ⟨rfl, hb2⟩; replace hB := hB.trans (hb2.mono hB.size); obtain ⟨a0, a1⟩ := (ha.grow hB).cells; obtain ⟨b0, b1⟩ := (hb.grow hB).cells; obtain ⟨r0, r1⟩ := (hr.grow hB).cells; obtain ⟨rf0, rf1⟩ := (hr.grow hB).frozen) | (go_at_call 115; with_reducible refine (htr _).mono ?_; rintro e w2 ⟨rfl, hb2⟩; replace hB := hB.trans (hb2.mono hB.size); obtain ⟨a0, a1⟩ := (ha.grow hB).cells; obtain ⟨b0, b1⟩ := (hb.grow hB).cells; obtain ⟨r0, r1⟩ := (hr.grow hB).cells; obtain ⟨rf0, rf1⟩ := (hr.grow hB).frozen))
    exact end_set (v := tru T) Tryz.results114 rfl (by omega) (bW2 w _ _) hB hr
set_option maxRecDepth 100000 in
set_option maxHeartbeats 1000000 in
theorem or_any (a b : Vl) (hva : IsV a) (hvb : IsV b) (w : World) : Calls Tryz.prog 116 #[vlV a, vlV b] w fun e w' => e = .returned (vlV (tru (truB a || truB b))) ∧ Below w.heap.size w w' := by
  obtain ⟨ha, hb, hr⟩ := pW2 w a b
  have hB : Below (W2 w a b).heap.size (W2 w a b) (W2 w a b) := Below.refl _ _
  have hta := fun W => true_any a hva W
  have htb := fun W => true_any b hvb W
  clear hva hvb
  cases h1 : truB a
  · rw [h1] at hta
    have htr := fun W => truth_any (truB b) W
    generalize truB b = T at *
    unfold vlV at *
    go_enter Tryz.func116, Tryz.ntmps116
    go_wp2_with (first | (go_at_call 87; with_reducible refine (hta _).mono ?_; rintro e w2 ⟨rfl, hb2⟩; replace hB := hB.trans (hb2.mono hB.size); obtain ⟨a0, a1⟩ := (ha.grow hB).cells; obtain ⟨b0, b1⟩ := (hb.grow hB).cells; obtain ⟨r0, r1⟩ := (hr.grow hB).cells; obtain ⟨rf0, rf1⟩ := (hr.grow hB).frozen) | (go_at_call 87; with_reducible refine (htb _).mono ?_; rintro e w2 ⟨rfl, hb2⟩; replace hB := hB.trans (hb2.mono hB.size); obtain ⟨a0, a1⟩ := (ha.grow hB).cells; obtain ⟨b0, b1⟩ := (hb.grow hB).cells; obtain ⟨r0, r1⟩ := (hr.grow hB).cells; obtain ⟨rf0, rf1⟩ := (hr.grow hB).frozen) | (go_at_call 115; with_reducible refine (htr _).mono ?_; rintro e w2 ⟨rfl, hb2⟩; replace hB := hB.trans (hb2.mono hB.size); obtain ⟨a0, a1⟩ := (ha.grow hB).cells; obtain ⟨b0, b1⟩ := (hb.grow hB).cells; obtain ⟨r0, r1⟩ := (hr.grow hB).cells; obtain ⟨rf0, rf1⟩ := (hr.grow hB).frozen))
    exact end_set (v := tru T) Tryz.results116 rfl (by omega) (bW2 w _ _) hB hr
  · rw [h1] at hta
    have htr := fun W => truth_any true W
    unfold vlV at *
    go_enter Tryz.func116, Tryz.ntmps116
    go_wp2_with (first | (go_at_call 87; with_reducible refine (hta _).mono ?_; rintro e w2 ⟨rfl, hb2⟩; replace hB := hB.trans (hb2.mono hB.size); obtain ⟨a0, a1⟩ := (ha.grow hB).cells; obtain ⟨b0, b1⟩ := (hb.grow hB).cells; obtain ⟨r0, r1⟩ := (hr.grow hB).cells; obtain ⟨rf0, rf1⟩ := (hr.grow hB).frozen) | (go_at_call 87; with_reducible refine (htb _).mono ?_; rintro e w2 ⟨rfl, hb2⟩; replace hB := hB.trans (hb2.mono hB.size); obtain ⟨a0, a1⟩ := (ha.grow hB).cells; obtain ⟨b0, b1⟩ := (hb.grow hB).cells; obtain ⟨r0, r1⟩ := (hr.grow hB).cells; obtain ⟨rf0, rf1⟩ := (hr.grow hB).frozen) | (go_at_call 115; with_reducible refine (htr _).mono ?_; rintro e w2 ⟨rfl, hb2⟩; replace hB := hB.trans (hb2.mono hB.size); obtain ⟨a0, a1⟩ := (ha.grow hB).cells; obtain ⟨b0, b1⟩ := (hb.grow hB).cells; obtain ⟨r0, r1⟩ := (hr.grow hB).cells; obtain ⟨rf0, rf1⟩ := (hr.grow hB).frozen))
    exact end_set (v := tru true) Tryz.results116 rfl (by omega) (bW2 w _ _) hB hr
set_option maxRecDepth 100000 in
set_option maxHeartbeats 1000000 in
theorem rec_51 (a b : Vl) (p : Nat) (v : Vl) (w : World) (hp : w.cell? ⟨p, 0, none⟩ = some (.func (.func 102) #[] #[]))
    (hc : noB a b = false → ∀ W, Calls Tryz.prog 102 #[vlV a, vlV b] W fun e w' => e = .returned (vlV v) ∧ Below W.heap.size W w') :
    Calls Tryz.prog 143 #[vlV a, vlV b, .pointer (some ⟨p, 0, none⟩)] w fun e w' => e = .returned (vlV (if noB a b = true then nan else v)) ∧ Below w.heap.size w w' := by
  obtain ⟨ha, hb, hr⟩ := pW2 w a b
  have hB : Below (W2 w a b).heap.size (W2 w a b) (W2 w a b) := Below.refl _ _
  have hn := fun W => eitherNaN_b a b W
  have hnn := fun W => nan_b W
  have hpk : ∀ W, Below (W2 w a b).heap.size (W2 w a b) W → W.cell? ⟨p, 0, none⟩ = some (.func (.func 102) #[] #[]) := fun W h => keepC hp ((bW2 w a b).trans (h.mono (bW2 w a b).size))
  cases h1 : noB a b
  · rw [if_neg (by simp)]
    replace hc := hc h1
    rw [h1] at hn
    clear h1 hnn
    unfold vlV at *
    go_enter Tryz.func143, Tryz.ntmps143
    go_wp2_with (first | (go_at_call 144; with_reducible refine (hn _).mono ?_; rintro e w2 ⟨rfl, hb2⟩; replace hB := hB.trans (hb2.mono hB.size); obtain ⟨a0, a1⟩ := (ha.grow hB).cells; obtain ⟨b0, b1⟩ := (hb.grow hB).cells; obtain ⟨r0, r1⟩ := (hr.grow hB).cells; obtain ⟨rf0, rf1⟩ := (hr.grow hB).frozen; have pc := hpk _ hB) | (go_at_call 102; with_reducible refine (hc _).mono ?_; rintro e w2 ⟨rfl, hb2⟩; replace hB := hB.trans (hb2.mono hB.size); obtain ⟨a0, a1⟩ := (ha.grow hB).cells; obtain ⟨b0, b1⟩ := (hb.grow hB).cells; obtain ⟨r0, r1⟩ := (hr.grow hB).cells; obtain ⟨rf0, rf1⟩ := (hr.grow hB).frozen))
    exact end_set (v := v) Tryz.results143 rfl (by omega) (bW2 w _ _) hB hr
  · rw [if_pos rfl]
    rw [h1] at hn
    clear h1 hc
    unfold vlV at *
    go_enter Tryz.func143, Tryz.ntmps143
    go_wp2_with (first | (go_at_call 144; with_reducible refine (hn _).mono ?_; rintro e w2 ⟨rfl, hb2⟩; replace hB := hB.trans (hb2.mono hB.size); obtain ⟨a0, a1⟩ := (ha.grow hB).cells; obtain ⟨b0, b1⟩ := (hb.grow hB).cells; obtain ⟨r0, r1⟩ := (hr.grow hB).cells; obtain ⟨rf0, rf1⟩ := (hr.grow hB).frozen) | (go_at_call 62; with_reducible refine (hnn _).mono ?_; rintro e w2 ⟨rfl, hb2⟩; replace hB := hB.trans (hb2.mono hB.size); obtain ⟨a0, a1⟩ := (ha.grow hB).cells; obtain ⟨b0, b1⟩ := (hb.grow hB).cells; obtain ⟨r0, r1⟩ := (hr.grow hB).cells; obtain ⟨rf0, rf1⟩ := (hr.grow hB).frozen))
    exact end_set (v := nan) Tryz.results143 rfl (by omega) (bW2 w _ _) hB hr
set_option maxRecDepth 100000 in
set_option maxHeartbeats 1000000 in
theorem rec_52 (a b : Vl) (p : Nat) (v : Vl) (w : World) (hp : w.cell? ⟨p, 0, none⟩ = some (.func (.func 103) #[] #[]))
    (hc : noB a b = false → ∀ W, Calls Tryz.prog 103 #[vlV a, vlV b] W fun e w' => e = .returned (vlV v) ∧ Below W.heap.size W w') :
    Calls Tryz.prog 143 #[vlV a, vlV b, .pointer (some ⟨p, 0, none⟩)] w fun e w' => e = .returned (vlV (if noB a b = true then nan else v)) ∧ Below w.heap.size w w' := by
  obtain ⟨ha, hb, hr⟩ := pW2 w a b
  have hB : Below (W2 w a b).heap.size (W2 w a b) (W2 w a b) := Below.refl _ _
  have hn := fun W => eitherNaN_b a b W
  have hnn := fun W => nan_b W
  have hpk : ∀ W, Below (W2 w a b).heap.size (W2 w a b) W → W.cell? ⟨p, 0, none⟩ = some (.func (.func 103) #[] #[]) := fun W h => keepC hp ((bW2 w a b).trans (h.mono (bW2 w a b).size))
  cases h1 : noB a b
  · rw [if_neg (by simp)]
    replace hc := hc h1
    rw [h1] at hn
    clear h1 hnn
    unfold vlV at *
    go_enter Tryz.func143, Tryz.ntmps143
    go_wp2_with (first | (go_at_call 144; with_reducible refine (hn _).mono ?_; rintro e w2 ⟨rfl, hb2⟩; replace hB := hB.trans (hb2.mono hB.size); obtain ⟨a0, a1⟩ := (ha.grow hB).cells; obtain ⟨b0, b1⟩ := (hb.grow hB).cells; obtain ⟨r0, r1⟩ := (hr.grow hB).cells; obtain ⟨rf0, rf1⟩ := (hr.grow hB).frozen; have pc := hpk _ hB) | (go_at_call 103; with_reducible refine (hc _).mono ?_; rintro e w2 ⟨rfl, hb2⟩; replace hB := hB.trans (hb2.mono hB.size); obtain ⟨a0, a1⟩ := (ha.grow hB).cells; obtain ⟨b0, b1⟩ := (hb.grow hB).cells; obtain ⟨r0, r1⟩ := (hr.grow hB).cells; obtain ⟨rf0, rf1⟩ := (hr.grow hB).frozen))
    exact end_set (v := v) Tryz.results143 rfl (by omega) (bW2 w _ _) hB hr
  · rw [if_pos rfl]
    rw [h1] at hn
    clear h1 hc
    unfold vlV at *
    go_enter Tryz.func143, Tryz.ntmps143
    go_wp2_with (first | (go_at_call 144; with_reducible refine (hn _).mono ?_; rintro e w2 ⟨rfl, hb2⟩; replace hB := hB.trans (hb2.mono hB.size); obtain ⟨a0, a1⟩ := (ha.grow hB).cells; obtain ⟨b0, b1⟩ := (hb.grow hB).cells; obtain ⟨r0, r1⟩ := (hr.grow hB).cells; obtain ⟨rf0, rf1⟩ := (hr.grow hB).frozen) | (go_at_call 62; with_reducible refine (hnn _).mono ?_; rintro e w2 ⟨rfl, hb2⟩; replace hB := hB.trans (hb2.mono hB.size); obtain ⟨a0, a1⟩ := (ha.grow hB).cells; obtain ⟨b0, b1⟩ := (hb.grow hB).cells; obtain ⟨r0, r1⟩ := (hr.grow hB).cells; obtain ⟨rf0, rf1⟩ := (hr.grow hB).frozen))
    exact end_set (v := nan) Tryz.results143 rfl (by omega) (bW2 w _ _) hB hr
set_option maxRecDepth 100000 in
set_option maxHeartbeats 1000000 in
theorem rec_53 (a b : Vl) (p : Nat) (v : Vl) (w : World) (hp : w.cell? ⟨p, 0, none⟩ = some (.func (.func 104) #[] #[]))
    (hc : noB a b = false → ∀ W, Calls Tryz.prog 104 #[vlV a, vlV b] W fun e w' => e = .returned (vlV v) ∧ Below W.heap.size W w') :
    Calls Tryz.prog 143 #[vlV a, vlV b, .pointer (some ⟨p, 0, none⟩)] w fun e w' => e = .returned (vlV (if noB a b = true then nan else v)) ∧ Below w.heap.size w w' := by
  obtain ⟨ha, hb, hr⟩ := pW2 w a b
  have hB : Below (W2 w a b).heap.size (W2 w a b) (W2 w a b) := Below.refl _ _
  have hn := fun W => eitherNaN_b a b W
  have hnn := fun W => nan_b W
  have hpk : ∀ W, Below (W2 w a b).heap.size (W2 w a b) W → W.cell? ⟨p, 0, none⟩ = some (.func (.func 104) #[] #[]) := fun W h => keepC hp ((bW2 w a b).trans (h.mono (bW2 w a b).size))
  cases h1 : noB a b
  · rw [if_neg (by simp)]
    replace hc := hc h1
    rw [h1] at hn
    clear h1 hnn
    unfold vlV at *
    go_enter Tryz.func143, Tryz.ntmps143
    go_wp2_with (first | (go_at_call 144; with_reducible refine (hn _).mono ?_; rintro e w2 ⟨rfl, hb2⟩; replace hB := hB.trans (hb2.mono hB.size); obtain ⟨a0, a1⟩ := (ha.grow hB).cells; obtain ⟨b0, b1⟩ := (hb.grow hB).cells; obtain ⟨r0, r1⟩ := (hr.grow hB).cells; obtain ⟨rf0, rf1⟩ := (hr.grow hB).frozen; have pc := hpk _ hB) | (go_at_call 104; with_reducible refine (hc _).mono ?_; rintro e w2 ⟨rfl, hb2⟩; replace hB := hB.trans (hb2.mono hB.size); obtain ⟨a0, a1⟩ := (ha.grow hB).cells; obtain ⟨b0, b1⟩ := (hb.grow hB).cells; obtain ⟨r0, r1⟩ := (hr.grow hB).cells; obtain ⟨rf0, rf1⟩ := (hr.grow hB).frozen))
    exact end_set (v := v) Tryz.results143 rfl (by omega) (bW2 w _ _) hB hr
  · rw [if_pos rfl]
    rw [h1] at hn
    clear h1 hc
    unfold vlV at *
    go_enter Tryz.func143, Tryz.ntmps143
    go_wp2_with (first | (go_at_call 144; with_reducible refine (hn _).mono ?_; rintro e w2 ⟨rfl, hb2⟩; replace hB := hB.trans (hb2.mono hB.size); obtain ⟨a0, a1⟩ := (ha.grow hB).cells; obtain ⟨b0, b1⟩ := (hb.grow hB).cells; obtain ⟨r0, r1⟩ := (hr.grow hB).cells; obtain ⟨rf0, rf1⟩ := (hr.grow hB).frozen) | (go_at_call 62; with_reducible refine (hnn _).mono ?_; rintro e w2 ⟨rfl, hb2⟩; replace hB := hB.trans (hb2.mono hB.size); obtain ⟨a0, a1⟩ := (ha.grow hB).cells; obtain ⟨b0, b1⟩ := (hb.grow hB).cells; obtain ⟨r0, r1⟩ := (hr.grow hB).cells; obtain ⟨rf0, rf1⟩ := (hr.grow hB).frozen))
    exact end_set (v := nan) Tryz.results143 rfl (by omega) (bW2 w _ _) hB hr
set_option maxRecDepth 100000 in
set_option maxHeartbeats 1000000 in
theorem rec_54 (a b : Vl) (p : Nat) (v : Vl) (w : World) (hp : w.cell? ⟨p, 0, none⟩ = some (.func (.func 105) #[] #[]))
    (hc : noB a b = false → ∀ W, Calls Tryz.prog 105 #[vlV a, vlV b] W fun e w' => e = .returned (vlV v) ∧ Below W.heap.size W w') :
    Calls Tryz.prog 143 #[vlV a, vlV b, .pointer (some ⟨p, 0, none⟩)] w fun e w' => e = .returned (vlV (if noB a b = true then nan else v)) ∧ Below w.heap.size w w' := by
  obtain ⟨ha, hb, hr⟩ := pW2 w a b
  have hB : Below (W2 w a b).heap.size (W2 w a b) (W2 w a b) := Below.refl _ _
  have hn := fun W => eitherNaN_b a b W
  have hnn := fun W => nan_b W
  have hpk : ∀ W, Below (W2 w a b).heap.size (W2 w a b) W → W.cell? ⟨p, 0, none⟩ = some (.func (.func 105) #[] #[]) := fun W h => keepC hp ((bW2 w a b).trans (h.mono (bW2 w a b).size))
  cases h1 : noB a b
  · rw [if_neg (by simp)]
    replace hc := hc h1
    rw [h1] at hn
    clear h1 hnn
    unfold vlV at *
    go_enter Tryz.func143, Tryz.ntmps143
    go_wp2_with (first | (go_at_call 144; with_reducible refine (hn _).mono ?_; rintro e w2 ⟨rfl, hb2⟩; replace hB := hB.trans (hb2.mono hB.size); obtain ⟨a0, a1⟩ := (ha.grow hB).cells; obtain ⟨b0, b1⟩ := (hb.grow hB).cells; obtain ⟨r0, r1⟩ := (hr.grow hB).cells; obtain ⟨rf0, rf1⟩ := (hr.grow hB).frozen; have pc := hpk _ hB) | (go_at_call 105; with_reducible refine (hc _).mono ?_; rintro e w2 ⟨rfl, hb2⟩; replace hB := hB.trans (hb2.mono hB.size); obtain ⟨a0, a1⟩ := (ha.grow hB).cells; obtain ⟨b0, b1⟩ := (hb.grow hB).cells; obtain ⟨r0, r1⟩ := (hr.grow hB).cells; obtain ⟨rf0, rf1⟩ := (hr.grow hB).frozen))
    exact end_set (v := v) Tryz.results143 rfl (by omega) (bW2 w _ _) hB hr
  · rw [if_pos rfl]
    rw [h1] at hn
    clear h1 hc
    unfold vlV at *
    go_enter Tryz.func143, Tryz.ntmps143
    go_wp2_with (first | (go_at_call 144; with_reducible refine (hn _).mono ?_; rintro e w2 ⟨rfl, hb2⟩; replace hB := hB.trans (hb2.mono hB.size); obtain ⟨a0, a1⟩ := (ha.grow hB).cells; obtain ⟨b0, b1⟩ := (hb.grow hB).cells; obtain ⟨r0, r1⟩ := (hr.grow hB).cells; obtain ⟨rf0, rf1⟩ := (hr.grow hB).frozen) | (go_at_call 62; with_reducible refine (hnn _).mono ?_; rintro e w2 ⟨rfl, hb2⟩; replace hB := hB.trans (hb2.mono hB.size); obtain ⟨a0, a1⟩ := (ha.grow hB).cells; obtain ⟨b0, b1⟩ := (hb.grow hB).cells; obtain ⟨r0, r1⟩ := (hr.grow hB).cells; obtain ⟨rf0, rf1⟩ := (hr.grow hB).frozen))
    exact end_set (v := nan) Tryz.results143 rfl (by omega) (bW2 w _ _) hB hr
end Go.Proofs.YtejdmielhaldaaaGreat
/- Values: the contracts of what compared and unlessNull make. -/
namespace Go.Proofs.YtejdmielhaldaaaGreat
set_option linter.unusedVariables false
open Go.RowKit
attribute [local go_sem ↓] Go.wp_at_zero Go.wp_at_succ
set_option maxRecDepth 100000 in
theorem hold_56 (n : Int) (w : World) : Calls Tryz.prog 107 #[.int .i64 n] w fun e w' => e = .returned (.bool (n == 0)) ∧ Below w.heap.size w w' := by
  go_enter Tryz.func107, Tryz.ntmps107
  go_wp2
  go_ret
  exact ⟨rfl, Below.refl _ _⟩
set_option maxRecDepth 100000 in
set_option maxHeartbeats 1000000 in
theorem cmp_56 (a b : Vl) (p p2 : Nat) (B : Bool) (w : World) (hp : w.cell? ⟨p, 0, none⟩ = some (.bool B)) (hp2 : w.cell? ⟨p2, 0, none⟩ = some (.func (.func 107) #[] #[]))
    (hc : noB a b = false → ∀ W, Calls Tryz.prog 147 #[vlV a, vlV b] W fun e w' => e = .returned (.int .i64 (ordI a b)) ∧ Below W.heap.size W w') :
    Calls Tryz.prog 146 #[vlV a, vlV b, .pointer (some ⟨p, 0, none⟩), .pointer (some ⟨p2, 0, none⟩)] w fun e w' => e = .returned (vlV (tru (if noB a b = true then B else (ordI a b == 0)))) ∧ Below w.heap.size w w' := by
  obtain ⟨ha, hb, hr⟩ := pW2 w a b
  have hB : Below (W2 w a b).heap.size (W2 w a b) (W2 w a b) := Below.refl _ _
  have hn := fun W => eitherNaN_b a b W
  have hpk : ∀ W, Below (W2 w a b).heap.size (W2 w a b) W → W.cell? ⟨p, 0, none⟩ = some (.bool B) := fun W h => keepC hp ((bW2 w a b).trans (h.mono (bW2 w a b).size))
  have hpk2 : ∀ W, Below (W2 w a b).heap.size (W2 w a b) W → W.cell? ⟨p2, 0, none⟩ = some (.func (.func 107) #[] #[]) := fun W h => keepC hp2 ((bW2 w a b).trans (h.mono (bW2 w a b).size))
  have hlt2 : p2 < w.heap.size := World.block_lt_of_cell? w _ hp2
  clear hp hp2
  cases h1 : noB a b
  · rw [if_neg (by simp)]
    replace hc := hc h1
    rw [h1] at hn
    have hh := fun W => hold_56 (ordI a b) W
    have ht := fun W => truth_any (ordI a b == 0) W
    generalize (ordI a b == 0) = T at *
    generalize ordI a b = n at *
    clear h1
    unfold vlV at *
    go_enter Tryz.func146, Tryz.ntmps146
    go_wp2_with (first | (go_at_call 144; with_reducible refine (hn _).mono ?_; rintro e w2 ⟨rfl, hb2⟩; replace hB := hB.trans (hb2.mono hB.size); obtain ⟨a0, a1⟩ := (ha.grow hB).cells; obtain ⟨b0, b1⟩ := (hb.grow hB).cells; obtain ⟨r0, r1⟩ := (hr.grow hB).cells; obtain ⟨rf0, rf1⟩ := (hr.grow hB).frozen))
    replace hB := hB.drew
    obtain ⟨a0, a1⟩ := (ha.grow hB).cells
    obtain ⟨b0, b1⟩ := (hb.grow hB).cells
    obtain ⟨r0, r1⟩ := (hr.grow hB).cells
    obtain ⟨rf0, rf1⟩ := (hr.grow hB).frozen
    go_region_held3 (fun W => W.cell? ⟨w.heap.size, 0, none⟩ = some (.int .i64 a.kind) ∧ W.cell? ⟨w.heap.size, 1, none⟩ = some (.int .i64 a.n) ∧ W.cell? ⟨w.heap.size + 1, 0, none⟩ = some (.int .i64 b.kind) ∧ W.cell? ⟨w.heap.size + 1, 1, none⟩ = some (.int .i64 b.n) ∧ W.cell? ⟨p2, 0, none⟩ = some (.func (.func 107) #[] #[]))
      (first | exact ⟨a0, a1, b0, b1, hpk2 _ hB⟩ | exact ⟨cset a0 (by omega), cset a1 (by omega), cset b0 (by omega), cset b1 (by omega), cset (hpk2 _ hB) (by omega)⟩)
      (first | (go_at_call 147; with_reducible refine (hc _).mono ?_; rintro e w2 ⟨rfl, hb2⟩; replace hB := hB.trans (hb2.mono hB.size); obtain ⟨a0, a1⟩ := (ha.grow hB).cells; obtain ⟨b0, b1⟩ := (hb.grow hB).cells; obtain ⟨r0, r1⟩ := (hr.grow hB).cells; obtain ⟨rf0, rf1⟩ := (hr.grow hB).frozen) | (go_at_call 107; with_reducible refine (hh _).mono ?_; rintro e w2 ⟨rfl, hb2⟩; replace hB := hB.trans (hb2.mono hB.size); obtain ⟨a0, a1⟩ := (ha.grow hB).cells; obtain ⟨b0, b1⟩ := (hb.grow hB).cells; obtain ⟨r0, r1⟩ := (hr.grow hB).cells; obtain ⟨rf0, rf1⟩ := (hr.grow hB).frozen) | (go_at_call 115; with_reducible refine (ht _).mono ?_; rintro e w2 ⟨rfl, hb2⟩; replace hB := hB.trans (hb2.mono hB.size); obtain ⟨a0, a1⟩ := (ha.grow hB).cells; obtain ⟨b0, b1⟩ := (hb.grow hB).cells; obtain ⟨r0, r1⟩ := (hr.grow hB).cells; obtain ⟨rf0, rf1⟩ := (hr.grow hB).frozen))
    all_goals
      go_wp2
      exact end_set (v := tru T) Tryz.results146 rfl (by omega) (bW2 w _ _) hB hr
  · rw [if_pos rfl]
    rw [h1] at hn
    have ht := fun W => truth_any B W
    clear h1 hc hpk2
    unfold vlV at *
    go_enter Tryz.func146, Tryz.ntmps146
    go_wp2_with (first | (go_at_call 144; with_reducible refine (hn _).mono ?_; rintro e w2 ⟨rfl, hb2⟩; replace hB := hB.trans (hb2.mono hB.size); obtain ⟨a0, a1⟩ := (ha.grow hB).cells; obtain ⟨b0, b1⟩ := (hb.grow hB).cells; obtain ⟨r0, r1⟩ := (hr.grow hB).cells; obtain ⟨rf0, rf1⟩ := (hr.grow hB).frozen; have pc := hpk _ hB) | (go_at_call 115; with_reducible refine (ht _).mono ?_; rintro e w2 ⟨rfl, hb2⟩; replace hB := hB.trans (hb2.mono hB.size); obtain ⟨a0, a1⟩ := (ha.grow hB).cells; obtain ⟨b0, b1⟩ := (hb.grow hB).cells; obtain ⟨r0, r1⟩ := (hr.grow hB).cells; obtain ⟨rf0, rf1⟩ := (hr.grow hB).frozen))
    exact end_set (v := tru B) Tryz.results146 rfl (by omega) (bW2 w _ _) hB hr
set_option maxRecDepth 100000 in
theorem hold_57 (n : Int) (w : World) : Calls Tryz.prog 108 #[.int .i64 n] w fun e w' => e = .returned (.bool (n != 0)) ∧ Below w.heap.size w w' := by
  go_enter Tryz.func108, Tryz.ntmps108
  go_wp2
  go_ret
  exact ⟨rfl, Below.refl _ _⟩
set_option maxRecDepth 100000 in
set_option maxHeartbeats 1000000 in
theorem cmp_57 (a b : Vl) (p p2 : Nat) (B : Bool) (w : World) (hp : w.cell? ⟨p, 0, none⟩ = some (.bool B)) (hp2 : w.cell? ⟨p2, 0, none⟩ = some (.func (.func 108) #[] #[]))
    (hc : noB a b = false → ∀ W, Calls Tryz.prog 147 #[vlV a, vlV b] W fun e w' => e = .returned (.int .i64 (ordI a b)) ∧ Below W.heap.size W w') :
    Calls Tryz.prog 146 #[vlV a, vlV b, .pointer (some ⟨p, 0, none⟩), .pointer (some ⟨p2, 0, none⟩)] w fun e w' => e = .returned (vlV (tru (if noB a b = true then B else (ordI a b != 0)))) ∧ Below w.heap.size w w' := by
  obtain ⟨ha, hb, hr⟩ := pW2 w a b
  have hB : Below (W2 w a b).heap.size (W2 w a b) (W2 w a b) := Below.refl _ _
  have hn := fun W => eitherNaN_b a b W
  have hpk : ∀ W, Below (W2 w a b).heap.size (W2 w a b) W → W.cell? ⟨p, 0, none⟩ = some (.bool B) := fun W h => keepC hp ((bW2 w a b).trans (h.mono (bW2 w a b).size))
  have hpk2 : ∀ W, Below (W2 w a b).heap.size (W2 w a b) W → W.cell? ⟨p2, 0, none⟩ = some (.func (.func 108) #[] #[]) := fun W h => keepC hp2 ((bW2 w a b).trans (h.mono (bW2 w a b).size))
  have hlt2 : p2 < w.heap.size := World.block_lt_of_cell? w _ hp2
  clear hp hp2
  cases h1 : noB a b
  · rw [if_neg (by simp)]
    replace hc := hc h1
    rw [h1] at hn
    have hh := fun W => hold_57 (ordI a b) W
    have ht := fun W => truth_any (ordI a b != 0) W
    generalize (ordI a b != 0) = T at *
    generalize ordI a b = n at *
    clear h1
    unfold vlV at *
    go_enter Tryz.func146, Tryz.ntmps146
    go_wp2_with (first | (go_at_call 144; with_reducible refine (hn _).mono ?_; rintro e w2 ⟨rfl, hb2⟩; replace hB := hB.trans (hb2.mono hB.size); obtain ⟨a0, a1⟩ := (ha.grow hB).cells; obtain ⟨b0, b1⟩ := (hb.grow hB).cells; obtain ⟨r0, r1⟩ := (hr.grow hB).cells; obtain ⟨rf0, rf1⟩ := (hr.grow hB).frozen))
    replace hB := hB.drew
    obtain ⟨a0, a1⟩ := (ha.grow hB).cells
    obtain ⟨b0, b1⟩ := (hb.grow hB).cells
    obtain ⟨r0, r1⟩ := (hr.grow hB).cells
    obtain ⟨rf0, rf1⟩ := (hr.grow hB).frozen
    go_region_held3 (fun W => W.cell? ⟨w.heap.size, 0, none⟩ = some (.int .i64 a.kind) ∧ W.cell? ⟨w.heap.size, 1, none⟩ = some (.int .i64 a.n) ∧ W.cell? ⟨w.heap.size + 1, 0, none⟩ = some (.int .i64 b.kind) ∧ W.cell? ⟨w.heap.size + 1, 1, none⟩ = some (.int .i64 b.n) ∧ W.cell? ⟨p2, 0, none⟩ = some (.func (.func 108) #[] #[]))
      (first | exact ⟨a0, a1, b0, b1, hpk2 _ hB⟩ | exact ⟨cset a0 (by omega), cset a1 (by omega), cset b0 (by omega), cset b1 (by omega), cset (hpk2 _ hB) (by omega)⟩)
      (first | (go_at_call 147; with_reducible refine (hc _).mono ?_; rintro e w2 ⟨rfl, hb2⟩; replace hB := hB.trans (hb2.mono hB.size); obtain ⟨a0, a1⟩ := (ha.grow hB).cells; obtain ⟨b0, b1⟩ := (hb.grow hB).cells; obtain ⟨r0, r1⟩ := (hr.grow hB).cells; obtain ⟨rf0, rf1⟩ := (hr.grow hB).frozen) | (go_at_call 108; with_reducible refine (hh _).mono ?_; rintro e w2 ⟨rfl, hb2⟩; replace hB := hB.trans (hb2.mono hB.size); obtain ⟨a0, a1⟩ := (ha.grow hB).cells; obtain ⟨b0, b1⟩ := (hb.grow hB).cells; obtain ⟨r0, r1⟩ := (hr.grow hB).cells; obtain ⟨rf0, rf1⟩ := (hr.grow hB).frozen) | (go_at_call 115; with_reducible refine (ht _).mono ?_; rintro e w2 ⟨rfl, hb2⟩; replace hB := hB.trans (hb2.mono hB.size); obtain ⟨a0, a1⟩ := (ha.grow hB).cells; obtain ⟨b0, b1⟩ := (hb.grow hB).cells; obtain ⟨r0, r1⟩ := (hr.grow hB).cells; obtain ⟨rf0, rf1⟩ := (hr.grow hB).frozen))
    all_goals
      go_wp2
      exact end_set (v := tru T) Tryz.results146 rfl (by omega) (bW2 w _ _) hB hr
  · rw [if_pos rfl]
    rw [h1] at hn
    have ht := fun W => truth_any B W
    clear h1 hc hpk2
    unfold vlV at *
    go_enter Tryz.func146, Tryz.ntmps146
    go_wp2_with (first | (go_at_call 144; with_reducible refine (hn _).mono ?_; rintro e w2 ⟨rfl, hb2⟩; replace hB := hB.trans (hb2.mono hB.size); obtain ⟨a0, a1⟩ := (ha.grow hB).cells; obtain ⟨b0, b1⟩ := (hb.grow hB).cells; obtain ⟨r0, r1⟩ := (hr.grow hB).cells; obtain ⟨rf0, rf1⟩ := (hr.grow hB).frozen; have pc := hpk _ hB) | (go_at_call 115; with_reducible refine (ht _).mono ?_; rintro e w2 ⟨rfl, hb2⟩; replace hB := hB.trans (hb2.mono hB.size); obtain ⟨a0, a1⟩ := (ha.grow hB).cells; obtain ⟨b0, b1⟩ := (hb.grow hB).cells; obtain ⟨r0, r1⟩ := (hr.grow hB).cells; obtain ⟨rf0, rf1⟩ := (hr.grow hB).frozen))
    exact end_set (v := tru B) Tryz.results146 rfl (by omega) (bW2 w _ _) hB hr
set_option maxRecDepth 100000 in
theorem hold_58 (n : Int) (w : World) : Calls Tryz.prog 109 #[.int .i64 n] w fun e w' => e = .returned (.bool (decide (n < 0))) ∧ Below w.heap.size w w' := by
  go_enter Tryz.func109, Tryz.ntmps109
  go_wp2
  go_ret
  exact ⟨rfl, Below.refl _ _⟩
set_option maxRecDepth 100000 in
set_option maxHeartbeats 1000000 in
theorem cmp_58 (a b : Vl) (p p2 : Nat) (B : Bool) (w : World) (hp : w.cell? ⟨p, 0, none⟩ = some (.bool B)) (hp2 : w.cell? ⟨p2, 0, none⟩ = some (.func (.func 109) #[] #[]))
    (hc : noB a b = false → ∀ W, Calls Tryz.prog 147 #[vlV a, vlV b] W fun e w' => e = .returned (.int .i64 (ordI a b)) ∧ Below W.heap.size W w') :
    Calls Tryz.prog 146 #[vlV a, vlV b, .pointer (some ⟨p, 0, none⟩), .pointer (some ⟨p2, 0, none⟩)] w fun e w' => e = .returned (vlV (tru (if noB a b = true then B else (decide (ordI a b < 0))))) ∧ Below w.heap.size w w' := by
  obtain ⟨ha, hb, hr⟩ := pW2 w a b
  have hB : Below (W2 w a b).heap.size (W2 w a b) (W2 w a b) := Below.refl _ _
  have hn := fun W => eitherNaN_b a b W
  have hpk : ∀ W, Below (W2 w a b).heap.size (W2 w a b) W → W.cell? ⟨p, 0, none⟩ = some (.bool B) := fun W h => keepC hp ((bW2 w a b).trans (h.mono (bW2 w a b).size))
  have hpk2 : ∀ W, Below (W2 w a b).heap.size (W2 w a b) W → W.cell? ⟨p2, 0, none⟩ = some (.func (.func 109) #[] #[]) := fun W h => keepC hp2 ((bW2 w a b).trans (h.mono (bW2 w a b).size))
  have hlt2 : p2 < w.heap.size := World.block_lt_of_cell? w _ hp2
  clear hp hp2
  cases h1 : noB a b
  · rw [if_neg (by simp)]
    replace hc := hc h1
    rw [h1] at hn
    have hh := fun W => hold_58 (ordI a b) W
    have ht := fun W => truth_any (decide (ordI a b < 0)) W
    generalize (decide (ordI a b < 0)) = T at *
    generalize ordI a b = n at *
    clear h1
    unfold vlV at *
    go_enter Tryz.func146, Tryz.ntmps146
    go_wp2_with (first | (go_at_call 144; with_reducible refine (hn _).mono ?_; rintro e w2 ⟨rfl, hb2⟩; replace hB := hB.trans (hb2.mono hB.size); obtain ⟨a0, a1⟩ := (ha.grow hB).cells; obtain ⟨b0, b1⟩ := (hb.grow hB).cells; obtain ⟨r0, r1⟩ := (hr.grow hB).cells; obtain ⟨rf0, rf1⟩ := (hr.grow hB).frozen))
    replace hB := hB.drew
    obtain ⟨a0, a1⟩ := (ha.grow hB).cells
    obtain ⟨b0, b1⟩ := (hb.grow hB).cells
    obtain ⟨r0, r1⟩ := (hr.grow hB).cells
    obtain ⟨rf0, rf1⟩ := (hr.grow hB).frozen
    go_region_held3 (fun W => W.cell? ⟨w.heap.size, 0, none⟩ = some (.int .i64 a.kind) ∧ W.cell? ⟨w.heap.size, 1, none⟩ = some (.int .i64 a.n) ∧ W.cell? ⟨w.heap.size + 1, 0, none⟩ = some (.int .i64 b.kind) ∧ W.cell? ⟨w.heap.size + 1, 1, none⟩ = some (.int .i64 b.n) ∧ W.cell? ⟨p2, 0, none⟩ = some (.func (.func 109) #[] #[]))
      (first | exact ⟨a0, a1, b0, b1, hpk2 _ hB⟩ | exact ⟨cset a0 (by omega), cset a1 (by omega), cset b0 (by omega), cset b1 (by omega), cset (hpk2 _ hB) (by omega)⟩)
      (first | (go_at_call 147; with_reducible refine (hc _).mono ?_; rintro e w2 ⟨rfl, hb2⟩; replace hB := hB.trans (hb2.mono hB.size); obtain ⟨a0, a1⟩ := (ha.grow hB).cells; obtain ⟨b0, b1⟩ := (hb.grow hB).cells; obtain ⟨r0, r1⟩ := (hr.grow hB).cells; obtain ⟨rf0, rf1⟩ := (hr.grow hB).frozen) | (go_at_call 109; with_reducible refine (hh _).mono ?_; rintro e w2 ⟨rfl, hb2⟩; replace hB := hB.trans (hb2.mono hB.size); obtain ⟨a0, a1⟩ := (ha.grow hB).cells; obtain ⟨b0, b1⟩ := (hb.grow hB).cells; obtain ⟨r0, r1⟩ := (hr.grow hB).cells; obtain ⟨rf0, rf1⟩ := (hr.grow hB).frozen) | (go_at_call 115; with_reducible refine (ht _).mono ?_; rintro e w2 ⟨rfl, hb2⟩; replace hB := hB.trans (hb2.mono hB.size); obtain ⟨a0, a1⟩ := (ha.grow hB).cells; obtain ⟨b0, b1⟩ := (hb.grow hB).cells; obtain ⟨r0, r1⟩ := (hr.grow hB).cells; obtain ⟨rf0, rf1⟩ := (hr.grow hB).frozen))
    all_goals
      go_wp2
      exact end_set (v := tru T) Tryz.results146 rfl (by omega) (bW2 w _ _) hB hr
  · rw [if_pos rfl]
    rw [h1] at hn
    have ht := fun W => truth_any B W
    clear h1 hc hpk2
    unfold vlV at *
    go_enter Tryz.func146, Tryz.ntmps146
    go_wp2_with (first | (go_at_call 144; with_reducible refine (hn _).mono ?_; rintro e w2 ⟨rfl, hb2⟩; replace hB := hB.trans (hb2.mono hB.size); obtain ⟨a0, a1⟩ := (ha.grow hB).cells; obtain ⟨b0, b1⟩ := (hb.grow hB).cells; obtain ⟨r0, r1⟩ := (hr.grow hB).cells; obtain ⟨rf0, rf1⟩ := (hr.grow hB).frozen; have pc := hpk _ hB) | (go_at_call 115; with_reducible refine (ht _).mono ?_; rintro e w2 ⟨rfl, hb2⟩; replace hB := hB.trans (hb2.mono hB.size); obtain ⟨a0, a1⟩ := (ha.grow hB).cells; obtain ⟨b0, b1⟩ := (hb.grow hB).cells; obtain ⟨r0, r1⟩ := (hr.grow hB).cells; obtain ⟨rf0, rf1⟩ := (hr.grow hB).frozen))
    exact end_set (v := tru B) Tryz.results146 rfl (by omega) (bW2 w _ _) hB hr
set_option maxRecDepth 100000 in
theorem hold_59 (n : Int) (w : World) : Calls Tryz.prog 110 #[.int .i64 n] w fun e w' => e = .returned (.bool (decide (n ≤ 0))) ∧ Below w.heap.size w w' := by
  go_enter Tryz.func110, Tryz.ntmps110
  go_wp2
  go_ret
  exact ⟨rfl, Below.refl _ _⟩
set_option maxRecDepth 100000 in
set_option maxHeartbeats 1000000 in
theorem cmp_59 (a b : Vl) (p p2 : Nat) (B : Bool) (w : World) (hp : w.cell? ⟨p, 0, none⟩ = some (.bool B)) (hp2 : w.cell? ⟨p2, 0, none⟩ = some (.func (.func 110) #[] #[]))
    (hc : noB a b = false → ∀ W, Calls Tryz.prog 147 #[vlV a, vlV b] W fun e w' => e = .returned (.int .i64 (ordI a b)) ∧ Below W.heap.size W w') :
    Calls Tryz.prog 146 #[vlV a, vlV b, .pointer (some ⟨p, 0, none⟩), .pointer (some ⟨p2, 0, none⟩)] w fun e w' => e = .returned (vlV (tru (if noB a b = true then B else (decide (ordI a b ≤ 0))))) ∧ Below w.heap.size w w' := by
  obtain ⟨ha, hb, hr⟩ := pW2 w a b
  have hB : Below (W2 w a b).heap.size (W2 w a b) (W2 w a b) := Below.refl _ _
  have hn := fun W => eitherNaN_b a b W
  have hpk : ∀ W, Below (W2 w a b).heap.size (W2 w a b) W → W.cell? ⟨p, 0, none⟩ = some (.bool B) := fun W h => keepC hp ((bW2 w a b).trans (h.mono (bW2 w a b).size))
  have hpk2 : ∀ W, Below (W2 w a b).heap.size (W2 w a b) W → W.cell? ⟨p2, 0, none⟩ = some (.func (.func 110) #[] #[]) := fun W h => keepC hp2 ((bW2 w a b).trans (h.mono (bW2 w a b).size))
  have hlt2 : p2 < w.heap.size := World.block_lt_of_cell? w _ hp2
  clear hp hp2
  cases h1 : noB a b
  · rw [if_neg (by simp)]
    replace hc := hc h1
    rw [h1] at hn
    have hh := fun W => hold_59 (ordI a b) W
    have ht := fun W => truth_any (decide (ordI a b ≤ 0)) W
    generalize (decide (ordI a b ≤ 0)) = T at *
    generalize ordI a b = n at *
    clear h1
    unfold vlV at *
    go_enter Tryz.func146, Tryz.ntmps146
    go_wp2_with (first | (go_at_call 144; with_reducible refine (hn _).mono ?_; rintro e w2 ⟨rfl, hb2⟩; replace hB := hB.trans (hb2.mono hB.size); obtain ⟨a0, a1⟩ := (ha.grow hB).cells; obtain ⟨b0, b1⟩ := (hb.grow hB).cells; obtain ⟨r0, r1⟩ := (hr.grow hB).cells; obtain ⟨rf0, rf1⟩ := (hr.grow hB).frozen))
    replace hB := hB.drew
    obtain ⟨a0, a1⟩ := (ha.grow hB).cells
    obtain ⟨b0, b1⟩ := (hb.grow hB).cells
    obtain ⟨r0, r1⟩ := (hr.grow hB).cells
    obtain ⟨rf0, rf1⟩ := (hr.grow hB).frozen
    go_region_held3 (fun W => W.cell? ⟨w.heap.size, 0, none⟩ = some (.int .i64 a.kind) ∧ W.cell? ⟨w.heap.size, 1, none⟩ = some (.int .i64 a.n) ∧ W.cell? ⟨w.heap.size + 1, 0, none⟩ = some (.int .i64 b.kind) ∧ W.cell? ⟨w.heap.size + 1, 1, none⟩ = some (.int .i64 b.n) ∧ W.cell? ⟨p2, 0, none⟩ = some (.func (.func 110) #[] #[]))
      (first | exact ⟨a0, a1, b0, b1, hpk2 _ hB⟩ | exact ⟨cset a0 (by omega), cset a1 (by omega), cset b0 (by omega), cset b1 (by omega), cset (hpk2 _ hB) (by omega)⟩)
      (first | (go_at_call 147; with_reducible refine (hc _).mono ?_; rintro e w2 ⟨rfl, hb2⟩; replace hB := hB.trans (hb2.mono hB.size); obtain ⟨a0, a1⟩ := (ha.grow hB).cells; obtain ⟨b0, b1⟩ := (hb.grow hB).cells; obtain ⟨r0, r1⟩ := (hr.grow hB).cells; obtain ⟨rf0, rf1⟩ := (hr.grow hB).frozen) | (go_at_call 110; with_reducible refine (hh _).mono ?_; rintro e w2 ⟨rfl, hb2⟩; replace hB := hB.trans (hb2.mono hB.size); obtain ⟨a0, a1⟩ := (ha.grow hB).cells; obtain ⟨b0, b1⟩ := (hb.grow hB).cells; obtain ⟨r0, r1⟩ := (hr.grow hB).cells; obtain ⟨rf0, rf1⟩ := (hr.grow hB).frozen) | (go_at_call 115; with_reducible refine (ht _).mono ?_; rintro e w2 ⟨rfl, hb2⟩; replace hB := hB.trans (hb2.mono hB.size); obtain ⟨a0, a1⟩ := (ha.grow hB).cells; obtain ⟨b0, b1⟩ := (hb.grow hB).cells; obtain ⟨r0, r1⟩ := (hr.grow hB).cells; obtain ⟨rf0, rf1⟩ := (hr.grow hB).frozen))
    all_goals
      go_wp2
      exact end_set (v := tru T) Tryz.results146 rfl (by omega) (bW2 w _ _) hB hr
  · rw [if_pos rfl]
    rw [h1] at hn
    have ht := fun W => truth_any B W
    clear h1 hc hpk2
    unfold vlV at *
    go_enter Tryz.func146, Tryz.ntmps146
    go_wp2_with (first | (go_at_call 144; with_reducible refine (hn _).mono ?_; rintro e w2 ⟨rfl, hb2⟩; replace hB := hB.trans (hb2.mono hB.size); obtain ⟨a0, a1⟩ := (ha.grow hB).cells; obtain ⟨b0, b1⟩ := (hb.grow hB).cells; obtain ⟨r0, r1⟩ := (hr.grow hB).cells; obtain ⟨rf0, rf1⟩ := (hr.grow hB).frozen; have pc := hpk _ hB) | (go_at_call 115; with_reducible refine (ht _).mono ?_; rintro e w2 ⟨rfl, hb2⟩; replace hB := hB.trans (hb2.mono hB.size); obtain ⟨a0, a1⟩ := (ha.grow hB).cells; obtain ⟨b0, b1⟩ := (hb.grow hB).cells; obtain ⟨r0, r1⟩ := (hr.grow hB).cells; obtain ⟨rf0, rf1⟩ := (hr.grow hB).frozen))
    exact end_set (v := tru B) Tryz.results146 rfl (by omega) (bW2 w _ _) hB hr
set_option maxRecDepth 100000 in
theorem hold_60 (n : Int) (w : World) : Calls Tryz.prog 111 #[.int .i64 n] w fun e w' => e = .returned (.bool (decide (0 < n))) ∧ Below w.heap.size w w' := by
  go_enter Tryz.func111, Tryz.ntmps111
  go_wp2
  go_ret
  exact ⟨rfl, Below.refl _ _⟩
set_option maxRecDepth 100000 in
set_option maxHeartbeats 1000000 in
theorem cmp_60 (a b : Vl) (p p2 : Nat) (B : Bool) (w : World) (hp : w.cell? ⟨p, 0, none⟩ = some (.bool B)) (hp2 : w.cell? ⟨p2, 0, none⟩ = some (.func (.func 111) #[] #[]))
    (hc : noB a b = false → ∀ W, Calls Tryz.prog 147 #[vlV a, vlV b] W fun e w' => e = .returned (.int .i64 (ordI a b)) ∧ Below W.heap.size W w') :
    Calls Tryz.prog 146 #[vlV a, vlV b, .pointer (some ⟨p, 0, none⟩), .pointer (some ⟨p2, 0, none⟩)] w fun e w' => e = .returned (vlV (tru (if noB a b = true then B else (decide (0 < ordI a b))))) ∧ Below w.heap.size w w' := by
  obtain ⟨ha, hb, hr⟩ := pW2 w a b
  have hB : Below (W2 w a b).heap.size (W2 w a b) (W2 w a b) := Below.refl _ _
  have hn := fun W => eitherNaN_b a b W
  have hpk : ∀ W, Below (W2 w a b).heap.size (W2 w a b) W → W.cell? ⟨p, 0, none⟩ = some (.bool B) := fun W h => keepC hp ((bW2 w a b).trans (h.mono (bW2 w a b).size))
  have hpk2 : ∀ W, Below (W2 w a b).heap.size (W2 w a b) W → W.cell? ⟨p2, 0, none⟩ = some (.func (.func 111) #[] #[]) := fun W h => keepC hp2 ((bW2 w a b).trans (h.mono (bW2 w a b).size))
  have hlt2 : p2 < w.heap.size := World.block_lt_of_cell? w _ hp2
  clear hp hp2
  cases h1 : noB a b
  · rw [if_neg (by simp)]
    replace hc := hc h1
    rw [h1] at hn
    have hh := fun W => hold_60 (ordI a b) W
    have ht := fun W => truth_any (decide (0 < ordI a b)) W
    generalize (decide (0 < ordI a b)) = T at *
    generalize ordI a b = n at *
    clear h1
    unfold vlV at *
    go_enter Tryz.func146, Tryz.ntmps146
    go_wp2_with (first | (go_at_call 144; with_reducible refine (hn _).mono ?_; rintro e w2 ⟨rfl, hb2⟩; replace hB := hB.trans (hb2.mono hB.size); obtain ⟨a0, a1⟩ := (ha.grow hB).cells; obtain ⟨b0, b1⟩ := (hb.grow hB).cells; obtain ⟨r0, r1⟩ := (hr.grow hB).cells; obtain ⟨rf0, rf1⟩ := (hr.grow hB).frozen))
    replace hB := hB.drew
    obtain ⟨a0, a1⟩ := (ha.grow hB).cells
    obtain ⟨b0, b1⟩ := (hb.grow hB).cells
    obtain ⟨r0, r1⟩ := (hr.grow hB).cells
    obtain ⟨rf0, rf1⟩ := (hr.grow hB).frozen
    go_region_held3 (fun W => W.cell? ⟨w.heap.size, 0, none⟩ = some (.int .i64 a.kind) ∧ W.cell? ⟨w.heap.size, 1, none⟩ = some (.int .i64 a.n) ∧ W.cell? ⟨w.heap.size + 1, 0, none⟩ = some (.int .i64 b.kind) ∧ W.cell? ⟨w.heap.size + 1, 1, none⟩ = some (.int .i64 b.n) ∧ W.cell? ⟨p2, 0, none⟩ = some (.func (.func 111) #[] #[]))
      (first | exact ⟨a0, a1, b0, b1, hpk2 _ hB⟩ | exact ⟨cset a0 (by omega), cset a1 (by omega), cset b0 (by omega), cset b1 (by omega), cset (hpk2 _ hB) (by omega)⟩)
      (first | (go_at_call 147; with_reducible refine (hc _).mono ?_; rintro e w2 ⟨rfl, hb2⟩; replace hB := hB.trans (hb2.mono hB.size); obtain ⟨a0, a1⟩ := (ha.grow hB).cells; obtain ⟨b0, b1⟩ := (hb.grow hB).cells; obtain ⟨r0, r1⟩ := (hr.grow hB).cells; obtain ⟨rf0, rf1⟩ := (hr.grow hB).frozen) | (go_at_call 111; with_reducible refine (hh _).mono ?_; rintro e w2 ⟨rfl, hb2⟩; replace hB := hB.trans (hb2.mono hB.size); obtain ⟨a0, a1⟩ := (ha.grow hB).cells; obtain ⟨b0, b1⟩ := (hb.grow hB).cells; obtain ⟨r0, r1⟩ := (hr.grow hB).cells; obtain ⟨rf0, rf1⟩ := (hr.grow hB).frozen) | (go_at_call 115; with_reducible refine (ht _).mono ?_; rintro e w2 ⟨rfl, hb2⟩; replace hB := hB.trans (hb2.mono hB.size); obtain ⟨a0, a1⟩ := (ha.grow hB).cells; obtain ⟨b0, b1⟩ := (hb.grow hB).cells; obtain ⟨r0, r1⟩ := (hr.grow hB).cells; obtain ⟨rf0, rf1⟩ := (hr.grow hB).frozen))
    all_goals
      go_wp2
      exact end_set (v := tru T) Tryz.results146 rfl (by omega) (bW2 w _ _) hB hr
  · rw [if_pos rfl]
    rw [h1] at hn
    have ht := fun W => truth_any B W
    clear h1 hc hpk2
    unfold vlV at *
    go_enter Tryz.func146, Tryz.ntmps146
    go_wp2_with (first | (go_at_call 144; with_reducible refine (hn _).mono ?_; rintro e w2 ⟨rfl, hb2⟩; replace hB := hB.trans (hb2.mono hB.size); obtain ⟨a0, a1⟩ := (ha.grow hB).cells; obtain ⟨b0, b1⟩ := (hb.grow hB).cells; obtain ⟨r0, r1⟩ := (hr.grow hB).cells; obtain ⟨rf0, rf1⟩ := (hr.grow hB).frozen; have pc := hpk _ hB) | (go_at_call 115; with_reducible refine (ht _).mono ?_; rintro e w2 ⟨rfl, hb2⟩; replace hB := hB.trans (hb2.mono hB.size); obtain ⟨a0, a1⟩ := (ha.grow hB).cells; obtain ⟨b0, b1⟩ := (hb.grow hB).cells; obtain ⟨r0, r1⟩ := (hr.grow hB).cells; obtain ⟨rf0, rf1⟩ := (hr.grow hB).frozen))
    exact end_set (v := tru B) Tryz.results146 rfl (by omega) (bW2 w _ _) hB hr
set_option maxRecDepth 100000 in
theorem hold_61 (n : Int) (w : World) : Calls Tryz.prog 112 #[.int .i64 n] w fun e w' => e = .returned (.bool (decide (0 ≤ n))) ∧ Below w.heap.size w w' := by
  go_enter Tryz.func112, Tryz.ntmps112
  go_wp2
  go_ret
  exact ⟨rfl, Below.refl _ _⟩
set_option maxRecDepth 100000 in
set_option maxHeartbeats 1000000 in
theorem cmp_61 (a b : Vl) (p p2 : Nat) (B : Bool) (w : World) (hp : w.cell? ⟨p, 0, none⟩ = some (.bool B)) (hp2 : w.cell? ⟨p2, 0, none⟩ = some (.func (.func 112) #[] #[]))
    (hc : noB a b = false → ∀ W, Calls Tryz.prog 147 #[vlV a, vlV b] W fun e w' => e = .returned (.int .i64 (ordI a b)) ∧ Below W.heap.size W w') :
    Calls Tryz.prog 146 #[vlV a, vlV b, .pointer (some ⟨p, 0, none⟩), .pointer (some ⟨p2, 0, none⟩)] w fun e w' => e = .returned (vlV (tru (if noB a b = true then B else (decide (0 ≤ ordI a b))))) ∧ Below w.heap.size w w' := by
  obtain ⟨ha, hb, hr⟩ := pW2 w a b
  have hB : Below (W2 w a b).heap.size (W2 w a b) (W2 w a b) := Below.refl _ _
  have hn := fun W => eitherNaN_b a b W
  have hpk : ∀ W, Below (W2 w a b).heap.size (W2 w a b) W → W.cell? ⟨p, 0, none⟩ = some (.bool B) := fun W h => keepC hp ((bW2 w a b).trans (h.mono (bW2 w a b).size))
  have hpk2 : ∀ W, Below (W2 w a b).heap.size (W2 w a b) W → W.cell? ⟨p2, 0, none⟩ = some (.func (.func 112) #[] #[]) := fun W h => keepC hp2 ((bW2 w a b).trans (h.mono (bW2 w a b).size))
  have hlt2 : p2 < w.heap.size := World.block_lt_of_cell? w _ hp2
  clear hp hp2
  cases h1 : noB a b
  · rw [if_neg (by simp)]
    replace hc := hc h1
    rw [h1] at hn
    have hh := fun W => hold_61 (ordI a b) W
    have ht := fun W => truth_any (decide (0 ≤ ordI a b)) W
    generalize (decide (0 ≤ ordI a b)) = T at *
    generalize ordI a b = n at *
    clear h1
    unfold vlV at *
    go_enter Tryz.func146, Tryz.ntmps146
    go_wp2_with (first | (go_at_call 144; with_reducible refine (hn _).mono ?_; rintro e w2 ⟨rfl, hb2⟩; replace hB := hB.trans (hb2.mono hB.size); obtain ⟨a0, a1⟩ := (ha.grow hB).cells; obtain ⟨b0, b1⟩ := (hb.grow hB).cells; obtain ⟨r0, r1⟩ := (hr.grow hB).cells; obtain ⟨rf0, rf1⟩ := (hr.grow hB).frozen))
    replace hB := hB.drew
    obtain ⟨a0, a1⟩ := (ha.grow hB).cells
    obtain ⟨b0, b1⟩ := (hb.grow hB).cells
    obtain ⟨r0, r1⟩ := (hr.grow hB).cells
    obtain ⟨rf0, rf1⟩ := (hr.grow hB).frozen
    go_region_held3 (fun W => W.cell? ⟨w.heap.size, 0, none⟩ = some (.int .i64 a.kind) ∧ W.cell? ⟨w.heap.size, 1, none⟩ = some (.int .i64 a.n) ∧ W.cell? ⟨w.heap.size + 1, 0, none⟩ = some (.int .i64 b.kind) ∧ W.cell? ⟨w.heap.size + 1, 1, none⟩ = some (.int .i64 b.n) ∧ W.cell? ⟨p2, 0, none⟩ = some (.func (.func 112) #[] #[]))
      (first | exact ⟨a0, a1, b0, b1, hpk2 _ hB⟩ | exact ⟨cset a0 (by omega), cset a1 (by omega), cset b0 (by omega), cset b1 (by omega), cset (hpk2 _ hB) (by omega)⟩)
      (first | (go_at_call 147; with_reducible refine (hc _).mono ?_; rintro e w2 ⟨rfl, hb2⟩; replace hB := hB.trans (hb2.mono hB.size); obtain ⟨a0, a1⟩ := (ha.grow hB).cells; obtain ⟨b0, b1⟩ := (hb.grow hB).cells; obtain ⟨r0, r1⟩ := (hr.grow hB).cells; obtain ⟨rf0, rf1⟩ := (hr.grow hB).frozen) | (go_at_call 112; with_reducible refine (hh _).mono ?_; rintro e w2 ⟨rfl, hb2⟩; replace hB := hB.trans (hb2.mono hB.size); obtain ⟨a0, a1⟩ := (ha.grow hB).cells; obtain ⟨b0, b1⟩ := (hb.grow hB).cells; obtain ⟨r0, r1⟩ := (hr.grow hB).cells; obtain ⟨rf0, rf1⟩ := (hr.grow hB).frozen) | (go_at_call 115; with_reducible refine (ht _).mono ?_; rintro e w2 ⟨rfl, hb2⟩; replace hB := hB.trans (hb2.mono hB.size); obtain ⟨a0, a1⟩ := (ha.grow hB).cells; obtain ⟨b0, b1⟩ := (hb.grow hB).cells; obtain ⟨r0, r1⟩ := (hr.grow hB).cells; obtain ⟨rf0, rf1⟩ := (hr.grow hB).frozen))
    all_goals
      go_wp2
      exact end_set (v := tru T) Tryz.results146 rfl (by omega) (bW2 w _ _) hB hr
  · rw [if_pos rfl]
    rw [h1] at hn
    have ht := fun W => truth_any B W
    clear h1 hc hpk2
    unfold vlV at *
    go_enter Tryz.func146, Tryz.ntmps146
    go_wp2_with (first | (go_at_call 144; with_reducible refine (hn _).mono ?_; rintro e w2 ⟨rfl, hb2⟩; replace hB := hB.trans (hb2.mono hB.size); obtain ⟨a0, a1⟩ := (ha.grow hB).cells; obtain ⟨b0, b1⟩ := (hb.grow hB).cells; obtain ⟨r0, r1⟩ := (hr.grow hB).cells; obtain ⟨rf0, rf1⟩ := (hr.grow hB).frozen; have pc := hpk _ hB) | (go_at_call 115; with_reducible refine (ht _).mono ?_; rintro e w2 ⟨rfl, hb2⟩; replace hB := hB.trans (hb2.mono hB.size); obtain ⟨a0, a1⟩ := (ha.grow hB).cells; obtain ⟨b0, b1⟩ := (hb.grow hB).cells; obtain ⟨r0, r1⟩ := (hr.grow hB).cells; obtain ⟨rf0, rf1⟩ := (hr.grow hB).frozen))
    exact end_set (v := tru B) Tryz.results146 rfl (by omega) (bW2 w _ _) hB hr
set_option maxRecDepth 100000 in
set_option maxHeartbeats 1000000 in
theorem unl_81 (a b : Vl) (p : Nat) (p2 : Nat) (v : Vl) (w : World) (hp : w.cell? ⟨p, 0, none⟩ = some (.func (.func 143) #[] #[.pointer (some ⟨p2, 0, none⟩)]))
    (hc : ¬ (a.kind = 2 ∨ b.kind = 2) → ∀ W, Below w.heap.size w W → Calls Tryz.prog 143 #[vlV a, vlV b, .pointer (some ⟨p2, 0, none⟩)] W fun e w' => e = .returned (vlV v) ∧ Below W.heap.size W w') :
    Calls Tryz.prog 148 #[vlV a, vlV b, .pointer (some ⟨p, 0, none⟩)] w fun e w' => e = .returned (vlV (nulls a b v)) ∧ Below w.heap.size w w' := by
  obtain ⟨ha, hb, hr⟩ := pW2 w a b
  have hB : Below (W2 w a b).heap.size (W2 w a b) (W2 w a b) := Below.refl _ _
  have hnu := fun W => null_b W
  have hp3 : (((w.alloc (.cells #[.int .i64 a.kind, .int .i64 a.n] 25)).alloc (.cells #[.int .i64 b.kind, .int .i64 b.n] 25)).alloc (.cells #[.int .i64 0, .int .i64 0] 25)).cell? ⟨p, 0, none⟩ = some (.func (.func 143) #[] #[.pointer (some ⟨p2, 0, none⟩)]) := keepC hp (bW2 w a b)
  by_cases h1 : a.kind = 2 ∨ b.kind = 2
  · have e : nulls a b v = nul := by rw [nulls, if_pos h1]
    rw [e]; clear e
    have h1b : ((a.kind == 2) = true) ∨ ((a.kind == 2) = false ∧ (b.kind == 2) = true) := by
      by_cases h : a.kind = 2
      · exact .inl (by simpa using h)
      · exact .inr ⟨by simpa using h, by simpa [h] using h1⟩
    clear h1 hc
    unfold vlV at *
    rcases h1b with h2 | ⟨h2, h3⟩
    · go_enter Tryz.func148, Tryz.ntmps148
      go_wp2_with (first | (go_at_call 44; with_reducible refine (hnu _).mono ?_; rintro e w2 ⟨rfl, hb2⟩; replace hB := hB.trans (hb2.mono hB.size); obtain ⟨a0, a1⟩ := (ha.grow hB).cells; obtain ⟨b0, b1⟩ := (hb.grow hB).cells; obtain ⟨r0, r1⟩ := (hr.grow hB).cells; obtain ⟨rf0, rf1⟩ := (hr.grow hB).frozen))
      exact end_set (v := nul) Tryz.results148 rfl (by omega) (bW2 w _ _) hB hr
    · go_enter Tryz.func148, Tryz.ntmps148
      go_wp2_with (first | (go_at_call 44; with_reducible refine (hnu _).mono ?_; rintro e w2 ⟨rfl, hb2⟩; replace hB := hB.trans (hb2.mono hB.size); obtain ⟨a0, a1⟩ := (ha.grow hB).cells; obtain ⟨b0, b1⟩ := (hb.grow hB).cells; obtain ⟨r0, r1⟩ := (hr.grow hB).cells; obtain ⟨rf0, rf1⟩ := (hr.grow hB).frozen))
      exact end_set (v := nul) Tryz.results148 rfl (by omega) (bW2 w _ _) hB hr
  · have e : nulls a b v = v := by rw [nulls, if_neg h1]
    rw [e]; clear e
    replace hc := hc h1 _ (bW2 w a b)
    have h2 : (a.kind == 2) = false := by simpa using fun h => h1 (.inl h)
    have h3 : (b.kind == 2) = false := by simpa using fun h => h1 (.inr h)
    clear h1
    unfold vlV at *
    go_enter Tryz.func148, Tryz.ntmps148
    go_wp2_with (first | (go_at_call 143; refine (hc).mono ?_; rintro e w2 ⟨rfl, hb2⟩; replace hB := hB.trans (hb2.mono hB.size); obtain ⟨a0, a1⟩ := (ha.grow hB).cells; obtain ⟨b0, b1⟩ := (hb.grow hB).cells; obtain ⟨r0, r1⟩ := (hr.grow hB).cells; obtain ⟨rf0, rf1⟩ := (hr.grow hB).frozen))
    exact end_set (v := v) Tryz.results148 rfl (by omega) (bW2 w _ _) hB hr
set_option maxRecDepth 100000 in
set_option maxHeartbeats 1000000 in
theorem unl_84 (a b : Vl) (p : Nat) (p2 p3 : Nat) (v : Vl) (w : World) (hp : w.cell? ⟨p, 0, none⟩ = some (.func (.func 146) #[] #[.pointer (some ⟨p2, 0, none⟩), .pointer (some ⟨p3, 0, none⟩)]))
    (hc : ¬ (a.kind = 2 ∨ b.kind = 2) → ∀ W, Below w.heap.size w W → Calls Tryz.prog 146 #[vlV a, vlV b, .pointer (some ⟨p2, 0, none⟩), .pointer (some ⟨p3, 0, none⟩)] W fun e w' => e = .returned (vlV v) ∧ Below W.heap.size W w') :
    Calls Tryz.prog 148 #[vlV a, vlV b, .pointer (some ⟨p, 0, none⟩)] w fun e w' => e = .returned (vlV (nulls a b v)) ∧ Below w.heap.size w w' := by
  obtain ⟨ha, hb, hr⟩ := pW2 w a b
  have hB : Below (W2 w a b).heap.size (W2 w a b) (W2 w a b) := Below.refl _ _
  have hnu := fun W => null_b W
  have hp3 : (((w.alloc (.cells #[.int .i64 a.kind, .int .i64 a.n] 25)).alloc (.cells #[.int .i64 b.kind, .int .i64 b.n] 25)).alloc (.cells #[.int .i64 0, .int .i64 0] 25)).cell? ⟨p, 0, none⟩ = some (.func (.func 146) #[] #[.pointer (some ⟨p2, 0, none⟩), .pointer (some ⟨p3, 0, none⟩)]) := keepC hp (bW2 w a b)
  by_cases h1 : a.kind = 2 ∨ b.kind = 2
  · have e : nulls a b v = nul := by rw [nulls, if_pos h1]
    rw [e]; clear e
    have h1b : ((a.kind == 2) = true) ∨ ((a.kind == 2) = false ∧ (b.kind == 2) = true) := by
      by_cases h : a.kind = 2
      · exact .inl (by simpa using h)
      · exact .inr ⟨by simpa using h, by simpa [h] using h1⟩
    clear h1 hc
    unfold vlV at *
    rcases h1b with h2 | ⟨h2, h3⟩
    · go_enter Tryz.func148, Tryz.ntmps148
      go_wp2_with (first | (go_at_call 44; with_reducible refine (hnu _).mono ?_; rintro e w2 ⟨rfl, hb2⟩; replace hB := hB.trans (hb2.mono hB.size); obtain ⟨a0, a1⟩ := (ha.grow hB).cells; obtain ⟨b0, b1⟩ := (hb.grow hB).cells; obtain ⟨r0, r1⟩ := (hr.grow hB).cells; obtain ⟨rf0, rf1⟩ := (hr.grow hB).frozen))
      exact end_set (v := nul) Tryz.results148 rfl (by omega) (bW2 w _ _) hB hr
    · go_enter Tryz.func148, Tryz.ntmps148
      go_wp2_with (first | (go_at_call 44; with_reducible refine (hnu _).mono ?_; rintro e w2 ⟨rfl, hb2⟩; replace hB := hB.trans (hb2.mono hB.size); obtain ⟨a0, a1⟩ := (ha.grow hB).cells; obtain ⟨b0, b1⟩ := (hb.grow hB).cells; obtain ⟨r0, r1⟩ := (hr.grow hB).cells; obtain ⟨rf0, rf1⟩ := (hr.grow hB).frozen))
      exact end_set (v := nul) Tryz.results148 rfl (by omega) (bW2 w _ _) hB hr
  · have e : nulls a b v = v := by rw [nulls, if_neg h1]
    rw [e]; clear e
    replace hc := hc h1 _ (bW2 w a b)
    have h2 : (a.kind == 2) = false := by simpa using fun h => h1 (.inl h)
    have h3 : (b.kind == 2) = false := by simpa using fun h => h1 (.inr h)
    clear h1
    unfold vlV at *
    go_enter Tryz.func148, Tryz.ntmps148
    go_wp2_with (first | (go_at_call 146; refine (hc).mono ?_; rintro e w2 ⟨rfl, hb2⟩; replace hB := hB.trans (hb2.mono hB.size); obtain ⟨a0, a1⟩ := (ha.grow hB).cells; obtain ⟨b0, b1⟩ := (hb.grow hB).cells; obtain ⟨r0, r1⟩ := (hr.grow hB).cells; obtain ⟨rf0, rf1⟩ := (hr.grow hB).frozen))
    exact end_set (v := v) Tryz.results148 rfl (by omega) (bW2 w _ _) hB hr
set_option maxRecDepth 100000 in
set_option maxHeartbeats 1000000 in
theorem unl_63 (a b : Vl) (p : Nat)  (v : Vl) (w : World) (hp : w.cell? ⟨p, 0, none⟩ = some (.func (.func 114) #[] #[]))
    (hc : ¬ (a.kind = 2 ∨ b.kind = 2) → ∀ W, Below w.heap.size w W → Calls Tryz.prog 114 #[vlV a, vlV b] W fun e w' => e = .returned (vlV v) ∧ Below W.heap.size W w') :
    Calls Tryz.prog 148 #[vlV a, vlV b, .pointer (some ⟨p, 0, none⟩)] w fun e w' => e = .returned (vlV (nulls a b v)) ∧ Below w.heap.size w w' := by
  obtain ⟨ha, hb, hr⟩ := pW2 w a b
  have hB : Below (W2 w a b).heap.size (W2 w a b) (W2 w a b) := Below.refl _ _
  have hnu := fun W => null_b W
  have hp3 : (((w.alloc (.cells #[.int .i64 a.kind, .int .i64 a.n] 25)).alloc (.cells #[.int .i64 b.kind, .int .i64 b.n] 25)).alloc (.cells #[.int .i64 0, .int .i64 0] 25)).cell? ⟨p, 0, none⟩ = some (.func (.func 114) #[] #[]) := keepC hp (bW2 w a b)
  by_cases h1 : a.kind = 2 ∨ b.kind = 2
  · have e : nulls a b v = nul := by rw [nulls, if_pos h1]
    rw [e]; clear e
    have h1b : ((a.kind == 2) = true) ∨ ((a.kind == 2) = false ∧ (b.kind == 2) = true) := by
      by_cases h : a.kind = 2
      · exact .inl (by simpa using h)
      · exact .inr ⟨by simpa using h, by simpa [h] using h1⟩
    clear h1 hc
    unfold vlV at *
    rcases h1b with h2 | ⟨h2, h3⟩
    · go_enter Tryz.func148, Tryz.ntmps148
      go_wp2_with (first | (go_at_call 44; with_reducible refine (hnu _).mono ?_; rintro e w2 ⟨rfl, hb2⟩; replace hB := hB.trans (hb2.mono hB.size); obtain ⟨a0, a1⟩ := (ha.grow hB).cells; obtain ⟨b0, b1⟩ := (hb.grow hB).cells; obtain ⟨r0, r1⟩ := (hr.grow hB).cells; obtain ⟨rf0, rf1⟩ := (hr.grow hB).frozen))
      exact end_set (v := nul) Tryz.results148 rfl (by omega) (bW2 w _ _) hB hr
    · go_enter Tryz.func148, Tryz.ntmps148
      go_wp2_with (first | (go_at_call 44; with_reducible refine (hnu _).mono ?_; rintro e w2 ⟨rfl, hb2⟩; replace hB := hB.trans (hb2.mono hB.size); obtain ⟨a0, a1⟩ := (ha.grow hB).cells; obtain ⟨b0, b1⟩ := (hb.grow hB).cells; obtain ⟨r0, r1⟩ := (hr.grow hB).cells; obtain ⟨rf0, rf1⟩ := (hr.grow hB).frozen))
      exact end_set (v := nul) Tryz.results148 rfl (by omega) (bW2 w _ _) hB hr
  · have e : nulls a b v = v := by rw [nulls, if_neg h1]
    rw [e]; clear e
    replace hc := hc h1 _ (bW2 w a b)
    have h2 : (a.kind == 2) = false := by simpa using fun h => h1 (.inl h)
    have h3 : (b.kind == 2) = false := by simpa using fun h => h1 (.inr h)
    clear h1
    unfold vlV at *
    go_enter Tryz.func148, Tryz.ntmps148
    go_wp2_with (first | (go_at_call 114; refine (hc).mono ?_; rintro e w2 ⟨rfl, hb2⟩; replace hB := hB.trans (hb2.mono hB.size); obtain ⟨a0, a1⟩ := (ha.grow hB).cells; obtain ⟨b0, b1⟩ := (hb.grow hB).cells; obtain ⟨r0, r1⟩ := (hr.grow hB).cells; obtain ⟨rf0, rf1⟩ := (hr.grow hB).frozen))
    exact end_set (v := v) Tryz.results148 rfl (by omega) (bW2 w _ _) hB hr
set_option maxRecDepth 100000 in
set_option maxHeartbeats 1000000 in
theorem unl_64 (a b : Vl) (p : Nat)  (v : Vl) (w : World) (hp : w.cell? ⟨p, 0, none⟩ = some (.func (.func 116) #[] #[]))
    (hc : ¬ (a.kind = 2 ∨ b.kind = 2) → ∀ W, Below w.heap.size w W → Calls Tryz.prog 116 #[vlV a, vlV b] W fun e w' => e = .returned (vlV v) ∧ Below W.heap.size W w') :
    Calls Tryz.prog 148 #[vlV a, vlV b, .pointer (some ⟨p, 0, none⟩)] w fun e w' => e = .returned (vlV (nulls a b v)) ∧ Below w.heap.size w w' := by
  obtain ⟨ha, hb, hr⟩ := pW2 w a b
  have hB : Below (W2 w a b).heap.size (W2 w a b) (W2 w a b) := Below.refl _ _
  have hnu := fun W => null_b W
  have hp3 : (((w.alloc (.cells #[.int .i64 a.kind, .int .i64 a.n] 25)).alloc (.cells #[.int .i64 b.kind, .int .i64 b.n] 25)).alloc (.cells #[.int .i64 0, .int .i64 0] 25)).cell? ⟨p, 0, none⟩ = some (.func (.func 116) #[] #[]) := keepC hp (bW2 w a b)
  by_cases h1 : a.kind = 2 ∨ b.kind = 2
  · have e : nulls a b v = nul := by rw [nulls, if_pos h1]
    rw [e]; clear e
    have h1b : ((a.kind == 2) = true) ∨ ((a.kind == 2) = false ∧ (b.kind == 2) = true) := by
      by_cases h : a.kind = 2
      · exact .inl (by simpa using h)
      · exact .inr ⟨by simpa using h, by simpa [h] using h1⟩
    clear h1 hc
    unfold vlV at *
    rcases h1b with h2 | ⟨h2, h3⟩
    · go_enter Tryz.func148, Tryz.ntmps148
      go_wp2_with (first | (go_at_call 44; with_reducible refine (hnu _).mono ?_; rintro e w2 ⟨rfl, hb2⟩; replace hB := hB.trans (hb2.mono hB.size); obtain ⟨a0, a1⟩ := (ha.grow hB).cells; obtain ⟨b0, b1⟩ := (hb.grow hB).cells; obtain ⟨r0, r1⟩ := (hr.grow hB).cells; obtain ⟨rf0, rf1⟩ := (hr.grow hB).frozen))
      exact end_set (v := nul) Tryz.results148 rfl (by omega) (bW2 w _ _) hB hr
    · go_enter Tryz.func148, Tryz.ntmps148
      go_wp2_with (first | (go_at_call 44; with_reducible refine (hnu _).mono ?_; rintro e w2 ⟨rfl, hb2⟩; replace hB := hB.trans (hb2.mono hB.size); obtain ⟨a0, a1⟩ := (ha.grow hB).cells; obtain ⟨b0, b1⟩ := (hb.grow hB).cells; obtain ⟨r0, r1⟩ := (hr.grow hB).cells; obtain ⟨rf0, rf1⟩ := (hr.grow hB).frozen))
      exact end_set (v := nul) Tryz.results148 rfl (by omega) (bW2 w _ _) hB hr
  · have e : nulls a b v = v := by rw [nulls, if_neg h1]
    rw [e]; clear e
    replace hc := hc h1 _ (bW2 w a b)
    have h2 : (a.kind == 2) = false := by simpa using fun h => h1 (.inl h)
    have h3 : (b.kind == 2) = false := by simpa using fun h => h1 (.inr h)
    clear h1
    unfold vlV at *
    go_enter Tryz.func148, Tryz.ntmps148
    go_wp2_with (first | (go_at_call 116; refine (hc).mono ?_; rintro e w2 ⟨rfl, hb2⟩; replace hB := hB.trans (hb2.mono hB.size); obtain ⟨a0, a1⟩ := (ha.grow hB).cells; obtain ⟨b0, b1⟩ := (hb.grow hB).cells; obtain ⟨r0, r1⟩ := (hr.grow hB).cells; obtain ⟨rf0, rf1⟩ := (hr.grow hB).frozen))
    exact end_set (v := v) Tryz.results148 rfl (by omega) (bW2 w _ _) hB hr
end Go.Proofs.YtejdmielhaldaaaGreat
