/- slices.symMergeCmpFunc 31, whole. -/
import Derived.Test.YtnbhnnjgnojgbaaMd
namespace Go.Proofs.Ytnbhnnjgnojgbaa
set_option linter.unusedVariables false
open Go.RowKit
set_option maxRecDepth 100000 in
set_option maxHeartbeats 4000000 in
theorem symC2 (f : Nat) (c g S base : Nat) (D : List Jb) (a m b : Nat) (w : World) (hR : RowJ w g S D) (hg : base ≤ g) (hbs : base ≤ w.heap.size) (hl : D.length ≤ 1000000) (ham : a < m) (hmb : m < b) (hb : b ≤ D.length) (h1 : m ≠ a + 1) (h2 : b ≠ m + 1) (hbg : ¬ midS a b < m) (hf : b - a ≤ f + 1) (ih : SymIH f c g S base D.length) :
    Calls Try.prog 31 #[.slice (some ⟨g, 0, none⟩) D.length c, .int .i64 a, .int .i64 m, .int .i64 b, .func (.func 22) #[] #[]] w fun e w' => SrtQ base g S w (symF (f + 1) D a m b) e w' := by
  obtain ⟨md, hmd⟩ : ∃ md, md = midS a b := ⟨_, rfl⟩
  have hmd2 : md = (a + b) / 2 := hmd
  obtain ⟨st, hst⟩ : ∃ st, st = stS D a m b := ⟨_, rfl⟩
  have hin := (stS_in (D := D) ham hmb).2 hbg
  rw [← hst] at hin
  rw [← hmd] at hbg
  obtain ⟨n, hn⟩ : ∃ n, n = md + m := ⟨_, rfl⟩
  obtain ⟨en, hen⟩ : ∃ en, en = md + m - st := ⟨_, rfl⟩
  obtain ⟨P, hP⟩ : ∃ P : Nat → Bool, ∀ h, P h = !decide (cmpJ (D.getD (md + m - 1 - h) jb0) (D.getD h jb0) < 0) := ⟨_, fun h => rfl⟩
  have hPf : P = fun h => !decide (cmpJ (D.getD (md + m - 1 - h) jb0) (D.getD h jb0) < 0) := funext hP
  obtain ⟨kk, hkk⟩ : ∃ kk, kk = m - a := ⟨_, rfl⟩
  have hLP : Hid (lowS P kk a m = st) := by
    show _ = _
    rw [hst, hPf, hkk]
    unfold stS
    rw [← hmd, if_neg hbg]
  obtain ⟨D1, hD1⟩ : ∃ D1, D1 = if st < m ∧ m < en then rotD D st m en else D := ⟨_, rfl⟩
  obtain ⟨D2, hD2⟩ : ∃ D2, D2 = if a < st ∧ st < md then symF f D1 a st md else D1 := ⟨_, rfl⟩
  obtain ⟨RR, hRR⟩ : ∃ RR, RR = symF (f + 1) D a m b := ⟨_, rfl⟩
  have hR3 : Hid (RR = if md < en ∧ en < b then symF f D2 md en b else D2) := by
    show _ = _
    rw [hRR, hD2, hD1]
    rw [symF, if_neg h1, if_neg h2]
    simp only
    rw [← hmd, ← hst, ← hen]
  rw [← hRR]
  clear hRR
  have hl1 : D1.length = D.length := by rw [hD1]; split; exact rotD_len _ _ _ _; rfl
  have hl2 : D2.length = D.length := by rw [hD2]; split; rw [symF_len, hl1]; exact hl1
  replace hD1 : Hid _ := hD1
  replace hD2 : Hid _ := hD2
  have fb : a < md ∧ md < b ∧ st ≤ n ∧ en ≤ b ∧ a ≤ st ∧ md ≤ en ∧ st ≤ m ∧ m ≤ en ∧ st ≤ md := by omega
  have fn : Hid (n = md + m ∧ n = st + en) := by show _ ∧ _; omega
  have w0 : IntKind.i64.wrap ((m : Int) - (a : Int)) = (m : Int) - (a : Int) := Go.IntWalk.i64_in _ (by omega)
  have w00 : ((m : Int) - (a : Int) == 1) = false := by simp; omega
  have w02 : ¬ (m : Int) - (a : Int) = 1 := by omega
  have w03 : IntKind.i64.wrap ((b : Int) - (m : Int)) = (b : Int) - (m : Int) := Go.IntWalk.i64_in _ (by omega)
  have w04 : ((b : Int) - (m : Int) == 1) = false := by simp; omega
  have w05 : ¬ (b : Int) - (m : Int) = 1 := by omega
  have w06 : IntKind.i64.wrap ((a : Int) + (b : Int)) = (a : Int) + (b : Int) := Go.IntWalk.i64_in _ (by omega)
  have w07 : IntKind.u64.wrap ((a : Int) + (b : Int)) = (a : Int) + (b : Int) := Go.IntWalk.u64_in _ (by omega)
  have w08 : ((a : Int) + (b : Int)) / 2 = (md : Int) := by omega
  have w09 : IntKind.i64.wrap (md : Int) = (md : Int) := Go.IntWalk.i64_in _ (by omega)
  have w10 : IntKind.i64.wrap ((md : Int) + (m : Int)) = (n : Int) := by rw [Go.IntWalk.i64_in _ (by omega)]; omega
  have w11 : ¬ (md : Int) < (m : Int) := by omega
  obtain ⟨pp, hpp⟩ : ∃ pp, pp = n - 1 := ⟨_, rfl⟩
  have w13 : IntKind.i64.wrap ((n : Int) - 1) = (pp : Int) := by rw [Go.IntWalk.i64_in _ (by omega)]; omega
  have hPp : Hid (∀ h, P h = !decide (cmpJ (D.getD (pp - h) jb0) (D.getD h jb0) < 0)) := fun h => by rw [hP h, hpp, hn]
  have sb : a ≤ st ∧ st ≤ m ∧ m - a ≤ kk ∧ (∀ h, a ≤ h → h < m → h ≤ pp ∧ pp - h < D.length ∧ h < D.length) := ⟨by omega, by omega, by omega, fun h q1 q2 => by omega⟩
  have wE : IntKind.i64.wrap ((n : Int) - (st : Int)) = (en : Int) := by rw [Go.IntWalk.i64_in _ (by omega)]; omega
  have sub : ∀ p q : Nat, q - p ≤ b - a → p ≤ q → a ≤ p → q ≤ b → (a < p ∨ q < b) → q - p ≤ f := fun p q z1 z2 z3 z4 z5 => by omega
  clear hst hkk hPf hP hpp hn hen hmd hmd2 hin
  go_enter Try.func31, Try.ntmps31
  go_wp2
  clear w0 w00 w02 w03 w04 w05 w06 w07 w08 w09 w10 w13
  go_loopw [20, 21] (fun iv jv wr => ∃ i j k : Nat, iv = .int .i64 i ∧ jv = .int .i64 j ∧ a ≤ i ∧ i ≤ j ∧ j ≤ m ∧ j - i ≤ k ∧ Hid (lowS P k i j = st) ∧ Hid (RowJ wr g S D) ∧ Hid (Below base w wr)) (fun iv jv _ => (intOf jv - intOf iv).toNat)
  case atStart => exact ⟨a, m, kk, rfl, rfl, Nat.le_refl _, by omega, Nat.le_refl _, sb.2.2.1, hLP.out, hR, Below.refl _ _⟩
  case round =>
    obtain ⟨i, j, k, rfl, rfl, him, hij0, hjb, hk, hF, hX, hB⟩ := hrel
    by_cases hlt : i < j
    · have hki : (i : Int) < (j : Int) := by omega
      have hP := hPp.out
      obtain ⟨k, rfl⟩ : ∃ k', k = k' + 1 := ⟨k - 1, by omega⟩
      obtain ⟨h, hh⟩ : ∃ h, h = (i + j) / 2 := ⟨_, rfl⟩
      have hyes := fun hp => lowS_yes (p := P) (k := k) hlt hh hp
      have hno := fun hp => lowS_no (p := P) (k := k) hlt hh hp
      have w1 : IntKind.i64.wrap ((i : Int) + (j : Int)) = (i : Int) + (j : Int) := Go.IntWalk.i64_in _ (by omega)
      have w2 : IntKind.u64.wrap ((i : Int) + (j : Int)) = (i : Int) + (j : Int) := Go.IntWalk.u64_in _ (by omega)
      have w3 : ((i : Int) + (j : Int)) / 2 = (h : Int) := by omega
      have w4 : IntKind.i64.wrap (h : Int) = (h : Int) := Go.IntWalk.i64_in _ (by omega)
      have w5 : IntKind.i64.wrap ((h : Int) + 1) = (h : Int) + 1 := Go.IntWalk.i64_in _ (by omega)
      have hij : i ≤ h ∧ h < j := by omega
      obtain ⟨b1, b2, b3⟩ := sb.2.2.2 h (by omega) (by omega)
      obtain ⟨u, hu⟩ : ∃ u, u = pp - h := ⟨_, rfl⟩
      have w6 : IntKind.i64.wrap ((pp : Int) - (h : Int)) = (u : Int) := by rw [Go.IntWalk.i64_in _ (by omega)]; omega
      have hl1 : u < D.length := by omega
      have hl2 : h < D.length := by omega
      have hi1 : (u : Int) < (D.length : Int) := by omega
      have hi2 : (h : Int) < (D.length : Int) := by omega
      obtain ⟨x, hx⟩ : ∃ x, x = D.getD u jb0 := ⟨_, rfl⟩
      obtain ⟨y, hy⟩ : ∃ y, y = D.getD h jb0 := ⟨_, rfl⟩
      have hcj : ∀ W, RowJ W g S D → _ := fun W hW => hW.cells u hl1
      have hcp : ∀ W, RowJ W g S D → _ := fun W hW => hW.cells h hl2
      rw [← hx] at hcj
      rw [← hy] at hcp
      have c0 : ∀ q : Bel wr, q.W.cell? ⟨g, u * 7, none⟩ = some (.string x.fo) := fun q => (hcj q.W (hX.out.grow q.h)).1
      have c1 : ∀ q : Bel wr, q.W.cell? ⟨g, u * 7 + 1, none⟩ = some (.string x.gr) := fun q => (hcj q.W (hX.out.grow q.h)).2.1
      have c2 : ∀ q : Bel wr, q.W.cell? ⟨g, u * 7 + 2, none⟩ = some (.int .i64 x.id) := fun q => (hcj q.W (hX.out.grow q.h)).2.2.1
      have c3 : ∀ q : Bel wr, q.W.cell? ⟨g, u * 7 + 3, none⟩ = some (.int .i64 x.iv) := fun q => (hcj q.W (hX.out.grow q.h)).2.2.2.1
      have c4 : ∀ q : Bel wr, q.W.cell? ⟨g, u * 7 + 4, none⟩ = some (.int .i64 x.off) := fun q => (hcj q.W (hX.out.grow q.h)).2.2.2.2.1
      have c5 : ∀ q : Bel wr, q.W.cell? ⟨g, u * 7 + 5, none⟩ = some (.bool x.pa) := fun q => (hcj q.W (hX.out.grow q.h)).2.2.2.2.2.1
      have c6 : ∀ q : Bel wr, q.W.cell? ⟨g, u * 7 + 6, none⟩ = some (.int .i64 x.la) := fun q => (hcj q.W (hX.out.grow q.h)).2.2.2.2.2.2
      have e0 : ∀ q : Bel wr, q.W.cell? ⟨g, h * 7, none⟩ = some (.string y.fo) := fun q => (hcp q.W (hX.out.grow q.h)).1
      have e1 : ∀ q : Bel wr, q.W.cell? ⟨g, h * 7 + 1, none⟩ = some (.string y.gr) := fun q => (hcp q.W (hX.out.grow q.h)).2.1
      have e2 : ∀ q : Bel wr, q.W.cell? ⟨g, h * 7 + 2, none⟩ = some (.int .i64 y.id) := fun q => (hcp q.W (hX.out.grow q.h)).2.2.1
      have e3 : ∀ q : Bel wr, q.W.cell? ⟨g, h * 7 + 3, none⟩ = some (.int .i64 y.iv) := fun q => (hcp q.W (hX.out.grow q.h)).2.2.2.1
      have e4 : ∀ q : Bel wr, q.W.cell? ⟨g, h * 7 + 4, none⟩ = some (.int .i64 y.off) := fun q => (hcp q.W (hX.out.grow q.h)).2.2.2.2.1
      have e5 : ∀ q : Bel wr, q.W.cell? ⟨g, h * 7 + 5, none⟩ = some (.bool y.pa) := fun q => (hcp q.W (hX.out.grow q.h)).2.2.2.2.2.1
      have e6 : ∀ q : Bel wr, q.W.cell? ⟨g, h * 7 + 6, none⟩ = some (.int .i64 y.la) := fun q => (hcp q.W (hX.out.grow q.h)).2.2.2.2.2.2
      have k22 : ∀ q : Bel wr, Calls Try.prog 22 #[.agg #[.string x.fo, .string x.gr, .int .i64 x.id, .int .i64 x.iv, .int .i64 x.off, .bool x.pa, .int .i64 x.la], .agg #[.string y.fo, .string y.gr, .int .i64 y.id, .int .i64 y.iv, .int .i64 y.off, .bool y.pa, .int .i64 y.la]] q.W fun e w' => e = .returned (.int .i64 (cmpJ x y)) ∧ Below q.W.heap.size q.W w' := fun q => cmp22 x y q.W
      obtain ⟨C, hC⟩ : ∃ C, C = cmpJ x y := ⟨_, rfl⟩
      rw [← hC] at k22
      have hPh : P h = !decide (C < 0) := by rw [hP, hC, hx, hy, hu]
      clear hh hx hy hC hu hP
      by_cases hc : C < 0
      · have d3 : decide (C < 0) = true := decide_eq_true hc
        have hnx : Hid (lowS P k i h = st) := by show _ = _; rw [← hF.out, hno (by rw [hPh, d3]; rfl)]
        clear hyes hno hPh
        go_upto_region 35 with fail
        refine wp_region_bel (by kernel_rfl) (by kernel_rfl) ?_
        repeat (go_big_quiet_step (first | (go_at_call 22; exact Calls.bel (k22 _))))
        refine wpQuiet_nil ?_
        rintro wq ⟨⟨wz, hq⟩, rfl⟩
        have hXq : Hid (RowJ wq g S D) := hX.out.grow hq
        have hBq : Hid (Below base w wq) := hB.out.trans (hq.mono (Nat.le_trans hbs hB.out.size))
        clear c0 c1 c2 c3 c4 c5 c6 e0 e1 e2 e3 e4 e5 e6 k22 hq hcj hcp
        go_wp2
        refine ⟨⟨i, h, k, by go_num, by go_num, by omega, by omega, by omega, by omega, hnx.out, hXq.out, hBq.out⟩, by simp [intOf]; omega⟩
      · have d3 : decide (C < 0) = false := decide_eq_false hc
        have hnx : Hid (lowS P k (h + 1) j = st) := by show _ = _; rw [← hF.out, hyes (by rw [hPh, d3]; rfl)]
        clear hyes hno hPh
        go_upto_region 35 with fail
        refine wp_region_bel (by kernel_rfl) (by kernel_rfl) ?_
        repeat (go_big_quiet_step (first | (go_at_call 22; exact Calls.bel (k22 _))))
        refine wpQuiet_nil ?_
        rintro wq ⟨⟨wz, hq⟩, rfl⟩
        have hXq : Hid (RowJ wq g S D) := hX.out.grow hq
        have hBq : Hid (Below base w wq) := hB.out.trans (hq.mono (Nat.le_trans hbs hB.out.size))
        clear c0 c1 c2 c3 c4 c5 c6 e0 e1 e2 e3 e4 e5 e6 k22 hq hcj hcp
        go_wp2
        refine ⟨⟨h + 1, j, k, by go_num, by go_num, by omega, by omega, by omega, by omega, hnx.out, hXq.out, hBq.out⟩, by simp [intOf]; omega⟩
    · obtain rfl : i = j := by omega
      have hki : ¬ (i : Int) < (i : Int) := by omega
      have hiL : i = st := by rw [← hF.out, lowS_end]
      clear hF hPp hLP
      subst hiL
      have hbd : b ≤ D.length := hb
      have t33 : i < m → m < en → ∀ W, RowJ W g S D → Calls Try.prog 33 #[.slice (some ⟨g, 0, none⟩) D.length c, .int .i64 i, .int .i64 m, .int .i64 en, .func (.func 22) #[] #[]] W fun e w' => SrtQ base g S W D1 e w' := fun z1 z2 W hW => by
        have := rotate33 c g S base D i m en (.func (.func 22) #[] #[]) W hW hg hl z1 z2 (by omega)
        have e1 := hD1.out
        rw [if_pos ⟨z1, z2⟩] at e1
        rw [e1]; exact this
      have tA : a < i → i < md → ∀ W, RowJ W g S D1 → base ≤ W.heap.size → Calls Try.prog 31 #[.slice (some ⟨g, 0, none⟩) D.length c, .int .i64 a, .int .i64 i, .int .i64 md, .func (.func 22) #[] #[]] W fun e w' => SrtQ base g S W D2 e w' := fun z1 z2 W hW hz => by
        have := ih D1 a i md W hW hz hl1 z1 z2 (by omega) (sub a md (by omega) (by omega) (Nat.le_refl _) (by omega) (.inr fb.2.1))
        have e1 := hD2.out
        rw [if_pos ⟨z1, z2⟩] at e1
        rw [e1]; exact this
      have tB : md < en → en < b → ∀ W, RowJ W g S D2 → base ≤ W.heap.size → Calls Try.prog 31 #[.slice (some ⟨g, 0, none⟩) D.length c, .int .i64 md, .int .i64 en, .int .i64 b, .func (.func 22) #[] #[]] W fun e w' => SrtQ base g S W RR e w' := fun z1 z2 W hW hz => by
        have := ih D2 md en b W hW hz hl2 z1 z2 hb (sub md b (by omega) (by omega) (by omega) (Nat.le_refl _) (.inl fb.1))
        have e1 := hR3.out
        rw [if_pos ⟨z1, z2⟩] at e1
        rw [e1]; exact this
      have u1 : ¬ (i < m ∧ m < en) → D1 = D := fun z => by rw [hD1.out, if_neg z]
      have u2 : ¬ (a < i ∧ i < md) → D2 = D1 := fun z => by rw [hD2.out, if_neg z]
      have u3 : ¬ (md < en ∧ en < b) → RR = D2 := fun z => by rw [hR3.out, if_neg z]
      have q1 : (i < m ∧ m < en) ∨ ((¬ i < m) ∧ D1 = D) ∨ ((i < m ∧ ¬ m < en) ∧ D1 = D) := by
        by_cases z1 : i < m
        · by_cases z2 : m < en
          · exact .inl ⟨z1, z2⟩
          · exact .inr (.inr ⟨⟨z1, z2⟩, u1 (fun h => z2 h.2)⟩)
        · exact .inr (.inl ⟨z1, u1 (fun h => z1 h.1)⟩)
      have q2 : (a < i ∧ i < md) ∨ ((¬ a < i) ∧ D2 = D1) ∨ ((a < i ∧ ¬ i < md) ∧ D2 = D1) := by
        by_cases z1 : a < i
        · by_cases z2 : i < md
          · exact .inl ⟨z1, z2⟩
          · exact .inr (.inr ⟨⟨z1, z2⟩, u2 (fun h => z2 h.2)⟩)
        · exact .inr (.inl ⟨z1, u2 (fun h => z1 h.1)⟩)
      have q3 : (md < en ∧ en < b) ∨ ((¬ md < en) ∧ RR = D2) ∨ ((md < en ∧ ¬ en < b) ∧ RR = D2) := by
        by_cases z1 : md < en
        · by_cases z2 : en < b
          · exact .inl ⟨z1, z2⟩
          · exact .inr (.inr ⟨⟨z1, z2⟩, u3 (fun h => z2 h.2)⟩)
        · exact .inr (.inl ⟨z1, u3 (fun h => z1 h.1)⟩)
      clear u1 u2 u3 hD1 hD2 hR3 ih sub sb
      have hXc : Hid (RowJ wr g S D) := hX
      have hBc : Hid (Below base w wr) := hB
      rcases q1 with ⟨x1, x2⟩ | ⟨x1, x3⟩ | ⟨⟨x1, x2⟩, x3⟩ <;> rcases q2 with ⟨y1, y2⟩ | ⟨y1, y3⟩ | ⟨⟨y1, y2⟩, y3⟩ <;> rcases q3 with ⟨z1, z2⟩ | ⟨z1, z3⟩ | ⟨⟨z1, z2⟩, z3⟩
      all_goals
        (try subst x3)
        (try subst y3)
        (try subst z3)
      all_goals (try (exfalso; have := fn.out; omega))
      all_goals
        (try have XA : (i : Int) < (m : Int) := by omega)
        (try have YA : ¬ (i : Int) < (m : Int) := by omega)
        (try have XB : (m : Int) < (en : Int) := by omega)
        (try have YB : ¬ (m : Int) < (en : Int) := by omega)
        (try have XC : (a : Int) < (i : Int) := by omega)
        (try have YC : ¬ (a : Int) < (i : Int) := by omega)
        (try have XD : (i : Int) < (md : Int) := by omega)
        (try have YD : ¬ (i : Int) < (md : Int) := by omega)
        (try have XE : (md : Int) < (en : Int) := by omega)
        (try have YE : ¬ (md : Int) < (en : Int) := by omega)
        (try have XF : (en : Int) < (b : Int) := by omega)
        (try have YF : ¬ (en : Int) < (b : Int) := by omega)
        clear fn
        go_wp2_with (first
          | (go_at_call 31; (with_reducible refine (tB z1 z2 _ hXc.out (Nat.le_trans hbs hBc.out.size)).mono ?_); rintro e w5 ⟨rfl, hX5, hB5⟩; replace hXc : Hid (RowJ w5 g S _) := hX5; replace hBc : Hid (Below base w w5) := hBc.out.trans hB5)
          | (go_at_call 31; (with_reducible refine (tA y1 y2 _ hXc.out (Nat.le_trans hbs hBc.out.size)).mono ?_); rintro e w4 ⟨rfl, hX4, hB4⟩; replace hXc : Hid (RowJ w4 g S _) := hX4; replace hBc : Hid (Below base w w4) := hBc.out.trans hB4)
          | (go_at_call 33; (with_reducible refine (t33 x1 x2 _ hXc.out).mono ?_); rintro e w3 ⟨rfl, hX3, hB3⟩; replace hXc : Hid (RowJ w3 g S _) := hX3; replace hBc : Hid (Below base w w3) := hBc.out.trans hB3))
        go_end0
        exact ⟨rfl, hXc.out, hBc.out⟩
end Go.Proofs.Ytnbhnnjgnojgbaa
