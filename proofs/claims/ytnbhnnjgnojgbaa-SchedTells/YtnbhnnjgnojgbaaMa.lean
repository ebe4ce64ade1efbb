/- slices.symMergeCmpFunc 31: its small cases. -/
import Derived.Test.YtnbhnnjgnojgbaaRo
import Derived.Test.YtnbhnnjgnojgbaaIs
namespace Go.Proofs.Ytnbhnnjgnojgbaa
set_option linter.unusedVariables false
open Go.RowKit
/-- The least place from i on at which p does not hold, by halves. -/
def lowS (p : Nat → Bool) : Nat → Nat → Nat → Nat
  | 0, i, j => i
  | k + 1, i, j => if i < j then (if p ((i + j) / 2) = true then lowS p k ((i + j) / 2 + 1) j else lowS p k i ((i + j) / 2)) else i
theorem lowS_in (p : Nat → Bool) : ∀ (k i j : Nat), i ≤ j → i ≤ lowS p k i j ∧ lowS p k i j ≤ j
  | 0, i, j, h => ⟨Nat.le_refl _, h⟩
  | k + 1, i, j, h => by
    unfold lowS
    split
    · split
      · have := lowS_in p k ((i + j) / 2 + 1) j (by omega)
        omega
      · have := lowS_in p k i ((i + j) / 2) (by omega)
        omega
    · omega
theorem lowS_end (p : Nat → Bool) (k i : Nat) : lowS p k i i = i := by
  cases k with
  | zero => rfl
  | succ k => unfold lowS; rw [if_neg (by omega)]
theorem lowS_yes {p : Nat → Bool} {k i j h : Nat} (hij : i < j) (hh : h = (i + j) / 2) (hp : p h = true) : lowS p (k + 1) i j = lowS p k (h + 1) j := by
  subst hh
  rw [lowS, if_pos hij, if_pos hp]
theorem lowS_no {p : Nat → Bool} {k i j h : Nat} (hij : i < j) (hh : h = (i + j) / 2) (hp : p h = false) : lowS p (k + 1) i j = lowS p k i h := by
  subst hh
  rw [lowS, if_pos hij, if_neg (by rw [hp]; decide)]
def shU : Nat → List Jb → Nat → List Jb
  | 0, D, k => D
  | n + 1, D, k => shU n (swp D k (k + 1)) (k + 1)
def shD : Nat → List Jb → Nat → List Jb
  | 0, D, k => D
  | n + 1, D, k => shD n (swp D k (k - 1)) (k - 1)
theorem shU_len : ∀ (n : Nat) (D : List Jb) (k : Nat), (shU n D k).length = D.length
  | 0, D, k => rfl
  | n + 1, D, k => by rw [shU, shU_len n, swp_len]
theorem shD_len : ∀ (n : Nat) (D : List Jb) (k : Nat), (shD n D k).length = D.length
  | 0, D, k => rfl
  | n + 1, D, k => by rw [shD, shD_len n, swp_len]
def loA (D : List Jb) (a m b : Nat) : Nat := lowS (fun h => decide (cmpJ (D.getD h jb0) (D.getD a jb0) < 0)) (b - m) m b
def loB (D : List Jb) (a m : Nat) : Nat := lowS (fun h => !decide (cmpJ (D.getD m jb0) (D.getD h jb0) < 0)) (m - a) a m
set_option maxRecDepth 100000 in
set_option maxHeartbeats 4000000 in
theorem symA (c g S base : Nat) (D : List Jb) (a m b : Nat) (w : World) (hR : RowJ w g S D) (hg : base ≤ g) (hbs : base ≤ w.heap.size) (hl : D.length ≤ 1000000) (ham : a < m) (hmb : m < b) (hb : b ≤ D.length) (h1 : m = a + 1) :
    Calls Try.prog 31 #[.slice (some ⟨g, 0, none⟩) D.length c, .int .i64 a, .int .i64 m, .int .i64 b, .func (.func 22) #[] #[]] w fun e w' => SrtQ base g S w (shU (loA D a m b - 1 - a) D a) e w' := by
  obtain ⟨P, hP⟩ : ∃ P : Nat → Bool, ∀ h, P h = decide (cmpJ (D.getD h jb0) (D.getD a jb0) < 0) := ⟨_, fun h => rfl⟩
  obtain ⟨LO, hLO⟩ : ∃ LO, LO = loA D a m b := ⟨_, rfl⟩
  have hPf : P = fun h => decide (cmpJ (D.getD h jb0) (D.getD a jb0) < 0) := funext hP
  have hin := lowS_in P (b - m) m b (by omega)
  have hLP : Hid (lowS P (b - m) m b = LO) := by show _ = _; rw [hLO, hPf]; rfl
  rw [hLP.out] at hin
  rw [← hLO]
  clear hLO hPf
  obtain ⟨RR, hRR⟩ : ∃ RR, RR = shU (LO - 1 - a) D a := ⟨_, rfl⟩
  rw [← hRR]
  replace hRR : Hid (shU (LO - 1 - a) D a = RR) := hRR.symm
  have w0 : IntKind.i64.wrap ((m : Int) - (a : Int)) = 1 := by rw [Go.IntWalk.i64_in _ (by omega)]; omega
  have wL : IntKind.i64.wrap ((LO : Int) - 1) = (LO : Int) - 1 := Go.IntWalk.i64_in _ (by omega)
  obtain ⟨kk, hkk⟩ : ∃ kk, kk = b - m := ⟨_, rfl⟩
  rw [← hkk] at hLP
  have hk0 : b - m ≤ kk := by omega
  clear hkk
  go_enter Try.func31, Try.ntmps31
  go_wp2
  clear w0
  go_loopw [10, 11] (fun iv jv wr => ∃ i j k : Nat, iv = .int .i64 i ∧ jv = .int .i64 j ∧ m ≤ i ∧ i ≤ j ∧ j ≤ b ∧ j - i ≤ k ∧ Hid (lowS P k i j = LO) ∧ Hid (RowJ wr g S D) ∧ Hid (Below base w wr)) (fun iv jv _ => (intOf jv - intOf iv).toNat)
  case atStart => exact ⟨m, b, kk, rfl, rfl, Nat.le_refl _, by omega, Nat.le_refl _, hk0, hLP.out, hR, Below.refl _ _⟩
  case round =>
    obtain ⟨i, j, k, rfl, rfl, him, hij0, hjb, hk, hF, hX, hB⟩ := hrel
    by_cases hlt : i < j
    · have hki : (i : Int) < (j : Int) := by omega
      obtain ⟨k, rfl⟩ : ∃ k', k = k' + 1 := ⟨k - 1, by omega⟩
      obtain ⟨h, hh⟩ : ∃ h, h = (i + j) / 2 := ⟨_, rfl⟩
      have hyes := fun hp => lowS_yes (p := P) (k := k) hlt hh hp
      have hno := fun hp => lowS_no (p := P) (k := k) hlt hh hp
      have w1 : IntKind.i64.wrap ((i : Int) + (j : Int)) = (i : Int) + (j : Int) := Go.IntWalk.i64_in _ (by omega)
      have w2 : IntKind.u64.wrap ((i : Int) + (j : Int)) = (i : Int) + (j : Int) := Go.IntWalk.u64_in _ (by omega)
      have w3 : ((i : Int) + (j : Int)) / 2 = (h : Int) := by omega
      have w4 : IntKind.i64.wrap (h : Int) = (h : Int) := Go.IntWalk.i64_in _ (by omega)
      have w5 : IntKind.i64.wrap ((h : Int) + 1) = (h : Int) + 1 := Go.IntWalk.i64_in _ (by omega)
      have hij : i ≤ h ∧ h < j := by omega
      have hl1 : h < D.length := by omega
      have hl2 : a < D.length := by omega
      have hi1 : (h : Int) < (D.length : Int) := by omega
      have hi2 : (a : Int) < (D.length : Int) := by omega
      obtain ⟨x, hx⟩ : ∃ x, x = D.getD h jb0 := ⟨_, rfl⟩
      obtain ⟨y, hy⟩ : ∃ y, y = D.getD a jb0 := ⟨_, rfl⟩
      have hcj : ∀ W, RowJ W g S D → _ := fun W hW => hW.cells h hl1
      have hcp : ∀ W, RowJ W g S D → _ := fun W hW => hW.cells a hl2
      rw [← hx] at hcj
      rw [← hy] at hcp
      have c0 : ∀ q : Bel wr, q.W.cell? ⟨g, h * 7, none⟩ = some (.string x.fo) := fun q => (hcj q.W (hX.out.grow q.h)).1
      have c1 : ∀ q : Bel wr, q.W.cell? ⟨g, h * 7 + 1, none⟩ = some (.string x.gr) := fun q => (hcj q.W (hX.out.grow q.h)).2.1
      have c2 : ∀ q : Bel wr, q.W.cell? ⟨g, h * 7 + 2, none⟩ = some (.int .i64 x.id) := fun q => (hcj q.W (hX.out.grow q.h)).2.2.1
      have c3 : ∀ q : Bel wr, q.W.cell? ⟨g, h * 7 + 3, none⟩ = some (.int .i64 x.iv) := fun q => (hcj q.W (hX.out.grow q.h)).2.2.2.1
      have c4 : ∀ q : Bel wr, q.W.cell? ⟨g, h * 7 + 4, none⟩ = some (.int .i64 x.off) := fun q => (hcj q.W (hX.out.grow q.h)).2.2.2.2.1
      have c5 : ∀ q : Bel wr, q.W.cell? ⟨g, h * 7 + 5, none⟩ = some (.bool x.pa) := fun q => (hcj q.W (hX.out.grow q.h)).2.2.2.2.2.1
      have c6 : ∀ q : Bel wr, q.W.cell? ⟨g, h * 7 + 6, none⟩ = some (.int .i64 x.la) := fun q => (hcj q.W (hX.out.grow q.h)).2.2.2.2.2.2
      have e0 : ∀ q : Bel wr, q.W.cell? ⟨g, a * 7, none⟩ = some (.string y.fo) := fun q => (hcp q.W (hX.out.grow q.h)).1
      have e1 : ∀ q : Bel wr, q.W.cell? ⟨g, a * 7 + 1, none⟩ = some (.string y.gr) := fun q => (hcp q.W (hX.out.grow q.h)).2.1
      have e2 : ∀ q : Bel wr, q.W.cell? ⟨g, a * 7 + 2, none⟩ = some (.int .i64 y.id) := fun q => (hcp q.W (hX.out.grow q.h)).2.2.1
      have e3 : ∀ q : Bel wr, q.W.cell? ⟨g, a * 7 + 3, none⟩ = some (.int .i64 y.iv) := fun q => (hcp q.W (hX.out.grow q.h)).2.2.2.1
      have e4 : ∀ q : Bel wr, q.W.cell? ⟨g, a * 7 + 4, none⟩ = some (.int .i64 y.off) := fun q => (hcp q.W (hX.out.grow q.h)).2.2.2.2.1
      have e5 : ∀ q : Bel wr, q.W.cell? ⟨g, a * 7 + 5, none⟩ = some (.bool y.pa) := fun q => (hcp q.W (hX.out.grow q.h)).2.2.2.2.2.1
      have e6 : ∀ q : Bel wr, q.W.cell? ⟨g, a * 7 + 6, none⟩ = some (.int .i64 y.la) := fun q => (hcp q.W (hX.out.grow q.h)).2.2.2.2.2.2
      have k22 : ∀ q : Bel wr, Calls Try.prog 22 #[.agg #[.string x.fo, .string x.gr, .int .i64 x.id, .int .i64 x.iv, .int .i64 x.off, .bool x.pa, .int .i64 x.la], .agg #[.string y.fo, .string y.gr, .int .i64 y.id, .int .i64 y.iv, .int .i64 y.off, .bool y.pa, .int .i64 y.la]] q.W fun e w' => e = .returned (.int .i64 (cmpJ x y)) ∧ Below q.W.heap.size q.W w' := fun q => cmp22 x y q.W
      obtain ⟨C, hC⟩ : ∃ C, C = cmpJ x y := ⟨_, rfl⟩
      rw [← hC] at k22
      have hPh : P h = decide (C < 0) := by rw [hP, hC, hx, hy]
      clear hh hx hy hC
      by_cases hc : C < 0
      · have d3 : decide (C < 0) = true := decide_eq_true hc
        have hnx : Hid (lowS P k (h + 1) j = LO) := by show _ = _; rw [← hF.out, hyes (by rw [hPh, d3])]
        clear hyes hno hPh
        go_upto_region 5 with fail
        refine wp_region_bel (by kernel_rfl) (by kernel_rfl) ?_
        repeat (go_big_quiet_step (first | (go_at_call 22; exact Calls.bel (k22 _))))
        refine wpQuiet_nil ?_
        rintro wq ⟨⟨wz, hq⟩, rfl⟩
        have hXq : Hid (RowJ wq g S D) := hX.out.grow hq
        have hBq : Hid (Below base w wq) := hB.out.trans (hq.mono (Nat.le_trans hbs hB.out.size))
        clear c0 c1 c2 c3 c4 c5 c6 e0 e1 e2 e3 e4 e5 e6 k22 hq hcj hcp
        go_wp2
        refine ⟨⟨h + 1, j, k, by go_num, by go_num, by omega, by omega, by omega, by omega, hnx.out, hXq.out, hBq.out⟩, by simp [intOf]; omega⟩
      · have d3 : decide (C < 0) = false := decide_eq_false hc
        have hnx : Hid (lowS P k i h = LO) := by show _ = _; rw [← hF.out, hno (by rw [hPh, d3])]
        clear hyes hno hPh
        go_upto_region 5 with fail
        refine wp_region_bel (by kernel_rfl) (by kernel_rfl) ?_
        repeat (go_big_quiet_step (first | (go_at_call 22; exact Calls.bel (k22 _))))
        refine wpQuiet_nil ?_
        rintro wq ⟨⟨wz, hq⟩, rfl⟩
        have hXq : Hid (RowJ wq g S D) := hX.out.grow hq
        have hBq : Hid (Below base w wq) := hB.out.trans (hq.mono (Nat.le_trans hbs hB.out.size))
        clear c0 c1 c2 c3 c4 c5 c6 e0 e1 e2 e3 e4 e5 e6 k22 hq hcj hcp
        go_wp2
        refine ⟨⟨i, h, k, by go_num, by go_num, by omega, by omega, by omega, by omega, hnx.out, hXq.out, hBq.out⟩, by simp [intOf]; omega⟩
    · obtain rfl : i = j := by omega
      have hki : ¬ (i : Int) < (i : Int) := by omega
      have hiL : i = LO := by rw [← hF.out, lowS_end]
      clear hF
      subst hiL
      go_wp2
      go_loopw [13] (fun kv wr => ∃ (k : Nat) (E : List Jb), kv = .int .i64 k ∧ a ≤ k ∧ k ≤ i - 1 ∧ E.length = D.length ∧ Hid (shU (i - 1 - k) E k = RR) ∧ Hid (RowJ wr g S E) ∧ Hid (Below base w wr)) (fun kv _ => i - (intOf kv).toNat)
      case atStart => exact ⟨a, D, rfl, Nat.le_refl _, by omega, rfl, hRR.out, hX.out, hB.out⟩
      case round =>
        obtain ⟨k, E, rfl, hak, hki1, hEl, hS, hX, hB⟩ := hrel
        by_cases hlt2 : k < i - 1
        · have hlti : (k : Int) < (i : Int) - 1 := by omega
          obtain ⟨q, hq⟩ : ∃ q, q = k + 1 := ⟨_, rfl⟩
          have v1 : IntKind.i64.wrap ((k : Int) + 1) = (q : Int) := by rw [Go.IntWalk.i64_in _ (by omega)]; omega
          have hSn : Hid (shU (i - 1 - q) (swp E k q) q = RR) := by
            show _ = _
            have := hS.out
            rw [show i - 1 - k = (i - 1 - q) + 1 by omega, shU, ← hq] at this
            exact this
          have hqb : q ≤ i - 1 ∧ k < q ∧ q < D.length := by omega
          clear hq
          have n1 : ¬ k = q := by omega
          have n2 : ¬ q = k := by omega
          have n3 : ¬ k * 7 = q * 7 := by omega
          have n4 : ¬ q * 7 = k * 7 := by omega
          have hpl : k < E.length := by omega
          have hql : q < E.length := by omega
          have hpi : (k : Int) < (D.length : Int) := by omega
          have hqi : (q : Int) < (D.length : Int) := by omega
          obtain ⟨x0, x1, x2, x3, x4, x5, x6⟩ := hX.out.cells k hpl
          obtain ⟨y0, y1, y2, y3, y4, y5, y6⟩ := hX.out.cells q hql
          have hfz := hX.out.frozen
          have hnext : Hid (RowJ (st7 (st7 wr g (k * 7) (E.getD q jb0)) g (q * 7) (E.getD k jb0)) g S (swp E k q)) := swp_row hX.out k q hpl hql
          have hBn : Hid (Below base w (st7 (st7 wr g (k * 7) (E.getD q jb0)) g (q * 7) (E.getD k jb0))) := st7_below (st7_below hB.out hg) hg
          generalize E.getD k jb0 = x at *
          generalize E.getD q jb0 = y at *
          go_upto_region 11 with fail
          go_region_law (fail)
          all_goals
            go_wp2
            refine ⟨⟨q, swp E k q, rfl, by omega, hqb.1, by rw [swp_len]; exact hEl, hSn.out, ?_, ?_⟩, by simp [intOf]; omega⟩
            · exact hnext.out.grow ((Below.refl _ _).drew)
            · exact hBn.out.drew
        · have hlti : ¬ (k : Int) < (i : Int) - 1 := by omega
          have hEE : E = RR := by
            have := hS.out
            rw [show i - 1 - k = 0 by omega] at this
            exact this
          subst hEE
          go_wp2
          go_end0
          exact ⟨rfl, hX.out, hB.out⟩
end Go.Proofs.Ytnbhnnjgnojgbaa
