/- symMerge 31, whole; stableCmpFunc 27; SortStableFunc 21. -/
import Derived.Test.YtnbhnnjgnojgbaaMe
import Derived.Test.YtnbhnnjgnojgbaaMf
import Derived.Test.YtnbhnnjgnojgbaaDu
namespace Go.Proofs.Ytnbhnnjgnojgbaa
set_option linter.unusedVariables false
open Go.RowKit
theorem sym31 (c g S base N : Nat) (hg : base ≤ g) (hl : N ≤ 1000000) : ∀ f, SymIH f c g S base N
  | 0 => fun E p q r W hR hbs hE h1 h2 h3 hf => by omega
  | f + 1 => fun E p q r W hR hbs hE h1 h2 h3 hf => by
    subst hE
    have ih := sym31 c g S base E.length hg hl f
    by_cases c1 : q = p + 1
    · have := symA c g S base E p q r W hR hg hbs hl h1 h2 h3 c1
      rw [symF, if_pos c1]; exact this
    · by_cases c2 : r = q + 1
      · have := symB c g S base E p q r W hR hg hbs hl h1 h2 h3 c1 c2
        rw [symF, if_neg c1, if_pos c2]; exact this
      · by_cases c3 : midS p r < q
        · exact symC1 f c g S base E p q r W hR hg hbs hl h1 h2 h3 c1 c2 c3 hf ih
        · exact symC2 f c g S base E p q r W hR hg hbs hl h1 h2 h3 c1 c2 c3 hf ih
/-- Blocks of n from a on, each sorted: k of them. -/
def blkF (n : Nat) : Nat → Nat → List Jb → List Jb
  | 0, a, D => D
  | k + 1, a, D => blkF n k (a + n) (insF D a (a + n))
/-- Pairs of blocks of n from a on, merged: k of them. -/
def prsF (n : Nat) : Nat → Nat → List Jb → List Jb
  | 0, a, D => D
  | k + 1, a, D => prsF n k (a + 2 * n) (symF (2 * n) D a (a + n) (a + 2 * n))
theorem blkF_len (n : Nat) : ∀ (k a : Nat) (D : List Jb), (blkF n k a D).length = D.length
  | 0, a, D => rfl
  | k + 1, a, D => by rw [blkF, blkF_len n k, insF_len]
theorem prsF_len (n : Nat) : ∀ (k a : Nat) (D : List Jb), (prsF n k a D).length = D.length
  | 0, a, D => rfl
  | k + 1, a, D => by rw [prsF, prsF_len n k, symF_len]
/-- One round: pairs of blocks of n, and what is left over. -/
def rndF (n : Nat) (D : List Jb) : List Jb :=
  let k := D.length / (2 * n)
  let E := prsF n k 0 D
  if k * (2 * n) + n < D.length then symF (D.length - k * (2 * n)) E (k * (2 * n)) (k * (2 * n) + n) D.length else E
theorem rndF_len (n : Nat) (D : List Jb) : (rndF n D).length = D.length := by
  unfold rndF
  simp only
  split
  · rw [symF_len, prsF_len]
  · rw [prsF_len]
/-- Rounds from blocks of n on. -/
def rdsF : Nat → Nat → List Jb → List Jb
  | 0, n, D => D
  | k + 1, n, D => if n < D.length then rdsF k (2 * n) (rndF n D) else D
theorem rdsF_len : ∀ (k n : Nat) (D : List Jb), (rdsF k n D).length = D.length
  | 0, n, D => rfl
  | k + 1, n, D => by
    unfold rdsF
    split
    · rw [rdsF_len k, rndF_len]
    · rfl
/-- What SortStableFunc leaves. -/
def stbF (D : List Jb) : List Jb := rdsF D.length 20 (insF (blkF 20 (D.length / 20) 0 D) (20 * (D.length / 20)) D.length)
theorem stbF_len (D : List Jb) : (stbF D).length = D.length := by unfold stbF; rw [rdsF_len, insF_len, blkF_len]
set_option maxRecDepth 100000 in
set_option maxHeartbeats 4000000 in
theorem stable27 (c g S base : Nat) (D : List Jb) (w : World) (hR : RowJ w g S D) (hg : base ≤ g) (hbs : base ≤ w.heap.size) (hl : D.length ≤ 100000) :
    Calls Try.prog 27 #[.slice (some ⟨g, 0, none⟩) D.length c, .int .i64 D.length, .func (.func 22) #[] #[]] w fun e w' => SrtQ base g S w (stbF D) e w' := by
  obtain ⟨N, hN⟩ : ∃ N, N = D.length := ⟨_, rfl⟩
  have tI : ∀ (E : List Jb) (p q : Nat) (W : World), E.length = N → RowJ W g S E → base ≤ W.heap.size → p ≤ q → q ≤ N → Calls Try.prog 30 #[.slice (some ⟨g, 0, none⟩) N c, .int .i64 p, .int .i64 q, .func (.func 22) #[] #[]] W fun e w' => SrtQ base g S W (insF E p q) e w' := fun E p q W hE hW hz h1 h2 => by
    have := ins30 c g S base E p q W hW hg hz (by omega) h1 (by omega)
    rw [hE] at this
    exact this
  have tM : ∀ (f : Nat) (E : List Jb) (p q r : Nat) (W : World), E.length = N → RowJ W g S E → base ≤ W.heap.size → p < q → q < r → r ≤ N → r - p ≤ f → Calls Try.prog 31 #[.slice (some ⟨g, 0, none⟩) N c, .int .i64 p, .int .i64 q, .int .i64 r, .func (.func 22) #[] #[]] W fun e w' => SrtQ base g S W (symF f E p q r) e w' := fun f E p q r W hE hW hz h1 h2 h3 h4 =>
    sym31 c g S base N hg (by omega) f E p q r W hW hz hE h1 h2 h3 h4
  obtain ⟨RR, hRR⟩ : ∃ RR, RR = stbF D := ⟨_, rfl⟩
  obtain ⟨K, hK⟩ : ∃ K, K = N / 20 := ⟨_, rfl⟩
  obtain ⟨B, hB0⟩ : ∃ B, B = blkF 20 K 0 D := ⟨_, rfl⟩
  obtain ⟨I, hI0⟩ : ∃ I, I = insF B (20 * K) N := ⟨_, rfl⟩
  have hR1 : Hid (rdsF N 20 I = RR) := by show _ = _; rw [hRR, hI0, hB0, hK, hN]; rfl
  have hIl : I.length = N := by rw [hI0, insF_len, hB0, blkF_len, hN]
  have hBl : B.length = N := by rw [hB0, blkF_len, hN]
  have hlN : N ≤ 100000 := by omega
  rw [← hRR, ← hN]
  have hDl : D.length = N := hN.symm
  replace hB0 : Hid (blkF 20 K 0 D = B) := hB0.symm
  replace hI0 : Hid (insF B (20 * K) N = I) := hI0.symm
  have hKK : Hid (20 * K ≤ N ∧ N < 20 * K + 20) := by show _ ∧ _; omega
  clear hRR hK hN hl
  replace tI : Hid _ := tI
  replace tM : Hid _ := tM
  go_enter Try.func27, Try.ntmps27
  go_wp2
  go_loopw [7, 8] (fun av bv wr => ∃ (a b j : Nat) (E : List Jb), av = .int .i64 a ∧ bv = .int .i64 b ∧ Hid (b = a + 20 ∧ a = 20 * (K - j) ∧ j ≤ K) ∧ E.length = N ∧ Hid (blkF 20 j a E = B) ∧ Hid (RowJ wr g S E) ∧ Hid (Below base w wr)) (fun av _ _ => N + 40 - (intOf av).toNat)
  case atStart => exact ⟨0, 20, K, D, rfl, rfl, (show 20 = 0 + 20 ∧ 0 = 20 * (K - K) ∧ K ≤ K by omega), hDl, hB0.out, hR, Below.refl _ _⟩
  case round =>
    obtain ⟨a, b, j, E, rfl, rfl, hab, hEl, hF, hX, hB⟩ := hrel
    have hkk := hKK.out
    have hbb := hab.out
    by_cases hlt : b ≤ N
    · have hki : (b : Int) ≤ (N : Int) := by omega
      obtain ⟨j, rfl⟩ : ∃ j', j = j' + 1 := ⟨j - 1, by omega⟩
      obtain ⟨d, hd⟩ : ∃ d, d = b + 20 := ⟨_, rfl⟩
      have w1 : IntKind.i64.wrap ((b : Int) + 20) = (d : Int) := by rw [Go.IntWalk.i64_in _ (by omega)]; omega
      have hc := tI.out E a b wr hEl hX.out (Nat.le_trans hbs hB.out.size) (by omega) hlt
      have hn : Hid (d = b + 20 ∧ b = 20 * (K - j) ∧ j ≤ K) := by show _ ∧ _ ∧ _; omega
      have hFn : Hid (blkF 20 j b (insF E a b) = B) := by
        show _ = _
        have := hF.out
        rw [blkF, ← hbb.1] at this
        exact this
      have hlen := insF_len E a b
      have hme : a + 20 = b ∧ b ≤ N := by omega
      generalize insF E a b = E2 at *
      clear hd hkk hbb
      go_wp2_with (go_at_call 30; refine hc.mono ?_; rintro e w3 ⟨rfl, hX3, hB3⟩)
      refine ⟨⟨b, d, j, E2, rfl, rfl, hn, by omega, hFn.out, hX3, hB.out.trans hB3⟩, ?_⟩
      simp [intOf]; omega
    · have hki : ¬ (b : Int) ≤ (N : Int) := by omega
      obtain rfl : j = 0 := by omega
      have hEB : E = B := hF.out
      subst hEB
      have haK : 20 * K = a := by omega
      rw [haK] at hI0
      have hc := tI.out E a N wr hEl hX.out (Nat.le_trans hbs hB.out.size) (by omega) (Nat.le_refl _)
      rw [hI0.out] at hc
      clear hkk hbb haK hab hF
      go_wp2_with (go_at_call 30; refine hc.mono ?_; rintro e w3 ⟨rfl, hX3, hB3⟩)
      have hX4 : Hid (RowJ w3 g S I) := hX3
      have hB4 : Hid (Below base w w3) := hB.out.trans hB3
      clear hc hX3 hB3 hX hB
      go_loopw [6] (fun nv wr => ∃ (n k : Nat) (E : List Jb), nv = .int .i64 n ∧ Hid (20 ≤ n ∧ N ≤ k + n) ∧ E.length = N ∧ Hid (rdsF k n E = RR) ∧ Hid (RowJ wr g S E) ∧ Hid (Below base w wr)) (fun nv _ => N - (intOf nv).toNat)
      case atStart => exact ⟨20, N, I, rfl, (show 20 ≤ 20 ∧ N ≤ N + 20 by omega), hIl, hR1.out, hX4.out, hB4.out⟩
      case round =>
        obtain ⟨n, k, F, rfl, hn, hFl, hFr, hX, hB⟩ := hrel
        have hnn := hn.out
        by_cases hlt2 : n < N
        · have hni : (n : Int) < (N : Int) := by omega
          obtain ⟨k, rfl⟩ : ∃ k', k = k' + 1 := ⟨k - 1, by omega⟩
          obtain ⟨M2, hM2⟩ : ∃ M2, M2 = 2 * n := ⟨_, rfl⟩
          obtain ⟨K2, hK2⟩ : ∃ K2, K2 = N / M2 := ⟨_, rfl⟩
          obtain ⟨T, hT⟩ : ∃ T, T = K2 * M2 := ⟨_, rfl⟩
          obtain ⟨PR, hPR⟩ : ∃ PR, PR = prsF n K2 0 F := ⟨_, rfl⟩
          obtain ⟨G, hG⟩ : ∃ G, G = rndF n F := ⟨_, rfl⟩
          have hT1 : T ≤ N := by rw [hT, hK2]; exact Nat.div_mul_le_self _ _
          have hT2 : N < T + M2 := by
            have h1 := Nat.div_add_mod N M2
            have h2 := Nat.mod_lt N (show 0 < M2 by omega)
            rw [hT, hK2, Nat.mul_comm]; omega
          have hGe : Hid (G = if T + n < N then symF (N - T) PR T (T + n) N else PR) := by
            show _ = _
            rw [hG]; unfold rndF
            simp only [hFl]
            rw [← hM2, ← hK2, ← hT, ← hPR]
          have hGl : G.length = N := by rw [hG, rndF_len]; exact hFl
          have hPl : PR.length = N := by rw [hPR, prsF_len]; exact hFl
          have hnx : Hid (rdsF k M2 G = RR) := by
            show _ = _
            have := hFr.out
            rw [rdsF, if_pos (by omega), ← hM2, ← hG] at this
            exact this
          have hMn : Hid (20 ≤ M2 ∧ N ≤ k + M2) := by show _ ∧ _; omega
          have w2 : IntKind.i64.wrap (2 * (n : Int)) = (M2 : Int) := by rw [Go.IntWalk.i64_in _ (by omega)]; omega
          have w3 : IntKind.i64.wrap ((n : Int) * 2) = (M2 : Int) := by rw [Go.IntWalk.i64_in _ (by omega)]; omega
          have hPR0 : Hid (prsF n K2 0 F = PR) := hPR.symm
          have hMM : n ≤ M2 ∧ n < M2 ∧ M2 ≤ 2 * N := by omega
          have hM2h : Hid (M2 = 2 * n) := hM2
          have hTT : Hid (T = K2 * M2) := hT
          clear hM2 hK2 hT hPR hG hnn
          go_wp2
          go_loopw [7, 8] (fun av bv wr => ∃ (a b j : Nat) (E : List Jb), av = .int .i64 a ∧ bv = .int .i64 b ∧ Hid (b = a + M2 ∧ a + j * M2 = T) ∧ E.length = N ∧ Hid (prsF n j a E = PR) ∧ Hid (RowJ wr g S E) ∧ Hid (Below base w wr)) (fun av _ _ => 3 * N + 40 - (intOf av).toNat)
          case atStart => exact ⟨0, M2, K2, F, rfl, rfl, (show M2 = 0 + M2 ∧ 0 + K2 * M2 = T from ⟨by omega, by rw [hTT.out]; omega⟩), hFl, hPR0.out, hX.out, hB.out⟩
          case round =>
            obtain ⟨a, b, j, E, rfl, rfl, hab, hEl, hF, hX, hB⟩ := hrel
            have hbb := hab.out
            by_cases hlt3 : b ≤ N
            · have hbi : (b : Int) ≤ (N : Int) := by omega
              obtain ⟨j, rfl⟩ : ∃ j', j = j' + 1 := by
                cases j with
                | zero => exfalso; omega
                | succ j => exact ⟨j, rfl⟩
              have ej : (j + 1) * M2 = j * M2 + M2 := Nat.succ_mul _ _
              obtain ⟨d, hd⟩ : ∃ d, d = b + M2 := ⟨_, rfl⟩
              obtain ⟨q, hq⟩ : ∃ q, q = a + n := ⟨_, rfl⟩
              have v1 : IntKind.i64.wrap ((a : Int) + (n : Int)) = (q : Int) := by rw [Go.IntWalk.i64_in _ (by omega)]; omega
              have v2 : IntKind.i64.wrap ((b : Int) + (M2 : Int)) = (d : Int) := by rw [Go.IntWalk.i64_in _ (by omega)]; omega
              have hc := tM.out (2 * n) E a q b wr hEl hX.out (Nat.le_trans hbs hB.out.size) (by have := hn.out; omega) (by have := hn.out; omega) hlt3 (by have := hM2h.out; omega)
              have hn2 : Hid (d = b + M2 ∧ b + j * M2 = T) := by show _ ∧ _; omega
              have hFn : Hid (prsF n j b (symF (2 * n) E a q b) = PR) := by
                show _ = _
                have := hF.out
                have hM2o := hM2h.out
                rw [prsF, ← hM2o, ← hbb.1, ← hq] at this
                rw [← hM2o]
                exact this
              have hlen := symF_len (2 * n) E a q b
              have hme : a < b := by have := hn.out; omega
              generalize symF (2 * n) E a q b = E2 at *
              clear hd hq ej hbb
              go_wp2_with (go_at_call 31; refine hc.mono ?_; rintro e w3 ⟨rfl, hX3, hB3⟩)
              refine ⟨⟨b, d, j, E2, rfl, rfl, hn2, by omega, hFn.out, hX3, hB.out.trans hB3⟩, ?_⟩
              simp [intOf]; omega
            · have hbi : ¬ (b : Int) ≤ (N : Int) := by omega
              obtain rfl : j = 0 := by
                cases j with
                | zero => rfl
                | succ j =>
                  exfalso
                  have ej : (j + 1) * M2 = j * M2 + M2 := Nat.succ_mul _ _
                  omega
              have haT : a = T := by omega
              have hEP : E = PR := hF.out
              subst hEP
              subst haT
              obtain ⟨q, hq⟩ : ∃ q, q = a + n := ⟨_, rfl⟩
              have v1 : IntKind.i64.wrap ((a : Int) + (n : Int)) = (q : Int) := by rw [Go.IntWalk.i64_in _ (by omega)]; omega
              have hGo := hGe.out
              rw [← hq] at hGo
              have hqa : a < q := by have := hn.out; omega
              by_cases hm : q < N
              · have hmi : (q : Int) < (N : Int) := by omega
                have hc := tM.out (N - a) E a q N wr hEl hX.out (Nat.le_trans hbs hB.out.size) hqa hm (Nat.le_refl _) (Nat.le_refl _)
                rw [if_pos hm] at hGo
                rw [← hGo] at hc
                clear hGo hq hbb hab hF hGe hTT hPR0
                go_wp2_with (go_at_call 31; refine hc.mono ?_; rintro e w3 ⟨rfl, hX3, hB3⟩)
                refine ⟨⟨M2, k, G, rfl, hMn.out, hGl, hnx.out, hX3, hB.out.trans hB3⟩, ?_⟩
                simp [intOf]; omega
              · have hmi : ¬ (q : Int) < (N : Int) := by omega
                rw [if_neg hm] at hGo
                clear hq hbb hab hF hGe hTT hPR0
                subst hGo
                go_wp2
                refine ⟨⟨M2, k, G, rfl, hMn.out, hGl, hnx.out, hX.out, hB.out⟩, ?_⟩
                simp [intOf]; omega
        · have hni : ¬ (n : Int) < (N : Int) := by omega
          have hFR : F = RR := by
            have := hFr.out
            cases k with
            | zero => exact this
            | succ k => rw [rdsF, if_neg (by omega)] at this; exact this
          subst hFR
          clear hnn
          go_wp2
          go_end0
          exact ⟨rfl, hX.out, hB.out⟩
set_option maxRecDepth 100000 in
set_option maxHeartbeats 1000000 in
/-- SortStableFunc of a slice of the call's own. -/
theorem sort21 (base : Nat) (v : Value) (D : List Jb) (w : World) (hO : OwnS TJ w base v D) (hbs : base ≤ w.heap.size) (hl : D.length ≤ 100000) :
    Calls Try.prog 21 #[v, .func (.func 22) #[] #[]] w fun e w' => e = .returned (.tuple #[]) ∧ OwnS TJ w' base v (stbF D) ∧ Below base w w' := by
  by_cases hD : D = []
  · subst hD
    have hs : stbF [] = [] := List.length_eq_zero_iff.1 (stbF_len [])
    rw [hs]
    obtain ⟨a, c, rfl⟩ := hO.shape
    refine (sort_tiny a _ c _ w (by simp)).mono ?_
    rintro e w' ⟨rfl, rfl⟩
    exact ⟨rfl, hO, Below.refl _ _⟩
  · obtain ⟨g, c, S, rfl, hg, hR, back⟩ := hO.row hD
    have hs := stable27 c g S base D w hR hg hbs hl
    go_enter Try.func21, Try.ntmps21
    go_wp2_with (go_at_call 27; refine hs.mono ?_; rintro e w3 ⟨rfl, hX3, hB3⟩)
    go_end0
    exact ⟨rfl, back _ _ hX3 (stbF_len D), hB3⟩
end Go.Proofs.Ytnbhnnjgnojgbaa
