/- Xb; Xc; Xd; Xe; Xf. -/
import Derived.Test.YtdhlfpgibfaimaaGreatDoorQeQt
import Derived.Test.YtdhlfpgibfaimaaGreatDoorWoWq
import Derived.Test.YtdhlfpgibfaimaaGreatDoorXa
import Derived.Test.YtdhlfpgibfaimaaGreatDoorXz
/- MathValues: value, at values and refs. -/
namespace Go.Proofs.YtdhlfpgibfaimaaGreatDoor
set_option linter.unusedVariables false
open Go.RowKit
/-- Where a name stands first. -/
def LookAt (NL : List ByteArray) (VL : List Vl) (r : ByteArray) (v : Vl) : Prop := ∃ i, i < NL.length ∧ NL.getD i ⟨#[]⟩ = r ∧ VL.getD i zer = v ∧ ∀ j, j < i → NL.getD j ⟨#[]⟩ ≠ r
/-- What value does. -/
def VaC (x : Ex) : Prop := ∀ (w : World) (A : Nat → Prop) (NL : List ByteArray) (VL : List Vl) (na : Option Addr) (nn nc : Nat) (la : Option Addr) (ln lc : Nat) (V : ByteArray → Vl) (v : Vl) (k : Int) (n : ByteArray) (vk vn : Int) (a : Option Addr) (m c : Nat), Txs w (.slice na nn nc) NL → Vls w (.slice la ln lc) VL → NL.length ≤ VL.length → VL.length ≤ 1000 → ExV w A x (.agg #[.int .i64 k, .string n, .int .i64 vk, .int .i64 vn, .slice a m c]) → VaT V x v → (∀ r ∈ refsE x, LookAt NL VL r (V r)) →
  Calls Tryz.prog 25 #[.agg #[.int .i64 k, .string n, .int .i64 vk, .int .i64 vn, .slice a m c], .slice na nn nc, .slice la ln lc] w fun e w' => e = .returned (.tuple #[vlV v, .bool true]) ∧ Below w.heap.size w w'
theorem VaT.invN {V : ByteArray → Vl} {u v : Vl} (h : VaT V (exN u) v) : v = u := by
  generalize hx : exN u = y at h
  cases h <;> unfold exN at hx <;> (try unfold exR at hx) <;> (try unfold exC at hx) <;> have := ex_inj hx
  case n => exact this.2.2.1.symm
  all_goals exact absurd this.1 (by decide)
theorem VaT.invR {V : ByteArray → Vl} {n : ByteArray} {v : Vl} (h : VaT V (exR n) v) : v = V n := by
  generalize hx : exR n = y at h
  cases h <;> unfold exR at hx <;> (try unfold exN at hx) <;> (try unfold exC at hx) <;> have := ex_inj hx
  case r => rw [this.2.1]
  all_goals exact absurd this.1 (by decide)
theorem VaT.inv1 {V : ByteArray → Vl} {n : ByteArray} {x : Ex} {v : Vl} (h : VaT V (exC n [x]) v) : ∃ u, VaT V x u ∧ IsV u ∧ doE n [u] = 0 ∧ v = doV n [u] := by
  generalize hx : exC n [x] = y at h
  cases h <;> unfold exC at hx <;> (try unfold exN at hx) <;> (try unfold exR at hx) <;> have := ex_inj hx
  case m =>
    have e := this.2.2.2
    simp only [List.cons.injEq, and_true] at e
    rw [e, this.2.1]; exact ⟨_, by assumption, by assumption, by assumption, rfl⟩
  all_goals first | exact absurd this.1 (by decide) | (have e := congrArg List.length this.2.2.2; simp at e)
theorem VaT.inv2 {V : ByteArray → Vl} {n : ByteArray} {x y : Ex} {v : Vl} (h : VaT V (exC n [x, y]) v) : ∃ u t, VaT V x u ∧ VaT V y t ∧ IsV u ∧ IsV t ∧ doE n [u, t] = 0 ∧ v = doV n [u, t] := by
  generalize hx : exC n [x, y] = z at h
  cases h <;> unfold exC at hx <;> (try unfold exN at hx) <;> (try unfold exR at hx) <;> have := ex_inj hx
  case j =>
    have e := this.2.2.2
    simp only [List.cons.injEq, and_true] at e
    rw [e.1, e.2, this.2.1]; exact ⟨_, _, by assumption, by assumption, by assumption, by assumption, by assumption, rfl⟩
  all_goals first | exact absurd this.1 (by decide) | (have e := congrArg List.length this.2.2.2; simp at e)
theorem ret24b {fn : Func} {p q : Tmp} {tmps : Array Value} {w' : World} {x : Nat} {v : Vl} {r : Value} {Q : Ending → World → Prop} (hr : fn.results = #[.cell p 24, .tmp q]) (ht : tmps[p]?.getD undef = .pointer (some ⟨x, 0, none⟩)) (hv : VlAt w' x v) (hs : tmps[q]?.getD undef = r)
    (hq : Q (.returned (.tuple #[vlV v, r])) w') : bodyPost Tryz.prog fn Q .ret { tmps := tmps, defers := [] } w' := by
  obtain ⟨c0, c1⟩ := hv.cells
  refine bodyPost_ret (v := .tuple #[vlV v, r]) ?_ rfl hq
  simp [results, hr, ht, hs, go_sem, c0, c1, vlV]
set_option maxRecDepth 100000 in
set_option maxHeartbeats 4000000 in
theorem vaN (u : Vl) : VaC (exN u) := by
  intro w A NL VL na nn nc la ln lc V v k n vk vn a m c hN hL hle hl hv hT hR
  obtain rfl := hT.invN
  obtain ⟨p1, p2, p3, p4, p5⟩ := hv.parts
  have e1 : k = 1 := p1
  have e3 : vk = v.kind := p3
  have e4 : vn = v.n := p4
  subst e1 e3 e4
  have hb0 := bW0 w (.cells #[.int .i64 1, .string n, .int .i64 v.kind, .int .i64 v.n, .slice a m c] 27)
  have hb1 := hb0.trans ((bW0 (w.alloc (.cells #[.int .i64 1, .string n, .int .i64 v.kind, .int .i64 v.n, .slice a m c] 27)) (.cells #[.int .i64 v.kind, .int .i64 v.n] 24)).mono hb0.size)
  have hvx : VlAt ((w.alloc (.cells #[.int .i64 1, .string n, .int .i64 v.kind, .int .i64 v.n, .slice a m c] 27)).alloc (.cells #[.int .i64 v.kind, .int .i64 v.n] 24)) (w.heap.size + 1) v := by
    have := vlNew (w.alloc (.cells #[.int .i64 1, .string n, .int .i64 v.kind, .int .i64 v.n, .slice a m c] 27)) v
    simpa using this
  clear p1 p2 p3 p4 p5 hv hN hL hle hl hT hR
  go_enter Tryz.func25, Tryz.ntmps25
  go_wp2
  exact ret24b Tryz.results25 rfl hvx rfl ⟨rfl, hb1⟩
set_option maxRecDepth 100000 in
set_option maxHeartbeats 8000000 in
theorem vaR (N : ByteArray) : VaC (exR N) := by
  intro w A NL VL na nn nc la ln lc V v k n vk vn a m c hN hL hle hl hv hT hR
  obtain rfl := hT.invR
  obtain ⟨p1, p2, p3, p4, p5⟩ := hv.parts
  have e1 : k = 2 := p1
  have e2 : n = N := p2
  subst e1 e2
  obtain ⟨i, hi, hin, hiv, hij⟩ := hR n (by rw [refs_r]; simp)
  have hb0 := bW0 w (.cells #[.int .i64 2, .string n, .int .i64 vk, .int .i64 vn, .slice a m c] 27)
  have hb1 := hb0.trans ((bW0 (w.alloc (.cells #[.int .i64 2, .string n, .int .i64 vk, .int .i64 vn, .slice a m c] 27)) (.cells #[.int .i64 0, .int .i64 0] 24)).mono hb0.size)
  have hx1 := (bxNew w 27 (.int .i64 2) (.string n) (.int .i64 vk) (.int .i64 vn) (.slice a m c)).grow (bW0 (w.alloc (.cells #[.int .i64 2, .string n, .int .i64 vk, .int .i64 vn, .slice a m c] 27)) (.cells #[.int .i64 0, .int .i64 0] 24))
  have hvx : VlAt ((w.alloc (.cells #[.int .i64 2, .string n, .int .i64 vk, .int .i64 vn, .slice a m c] 27)).alloc (.cells #[.int .i64 0, .int .i64 0] 24)) (w.heap.size + 1) zer := vlNew1 w (.cells #[.int .i64 2, .string n, .int .i64 vk, .int .i64 vn, .slice a m c] 27) zer
  have hnn := hN.len
  have hln : ln = VL.length := by obtain ⟨_, _, h, _⟩ := hL; injection h
  have hnm : Hid (∀ j, j < nn → ∃ b o, na = some ⟨b, o, none⟩ ∧ ((w.alloc (.cells #[.int .i64 2, .string n, .int .i64 vk, .int .i64 vn, .slice a m c] 27)).alloc (.cells #[.int .i64 0, .int .i64 0] 24)).cell? ⟨b, o + j, none⟩ = some (.string (NL.getD j ⟨#[]⟩))) := fun j hj => tx_at (hN.grow hb1) j (by omega)
  have hvl : Hid (∀ j, j < ln → ∃ b o, la = some ⟨b, o, none⟩ ∧ VAt ((w.alloc (.cells #[.int .i64 2, .string n, .int .i64 vk, .int .i64 vn, .slice a m c] 27)).alloc (.cells #[.int .i64 0, .int .i64 0] 24)) b (o + j * 2) (VL.getD j zer)) := fun j hj => by
    obtain ⟨a', c', h1, h2⟩ := hL.grow hb1
    injection h1 with h1 h3 h4
    subst h1
    rcases h2 with h2 | ⟨b, o, h2, h5⟩
    · subst h2; simp at hln; omega
    · exact ⟨b, o, h2, h5 j (by omega)⟩
  have hil : i < nn := by omega
  have hill : i < ln := by omega
  have hnl1 : nn ≤ 1000 := by omega
  have hll1 : ln ≤ 1000 := by omega
  replace hiv : Hid (VL.getD i zer = V n) := hiv
  clear p1 p2 p3 p4 p5 hv hN hL hle hl hT hR hnn hln hi
  generalize V n = R at *
  go_enter Tryz.func25, Tryz.ntmps25
  go_wp2
  generalize hW2 : (w.alloc (.cells #[.int .i64 2, .string n, .int .i64 vk, .int .i64 vn, .slice a m c] 27)).alloc (.cells #[.int .i64 0, .int .i64 0] 24) = W2 at *
  go_loopw [8] (fun e wr => ∃ kk : Nat, kk ≤ i ∧ e = .int .i64 kk ∧ Hid (Below W2.heap.size W2 wr)) (fun e _ => 1 + i - (intOf e).toNat)
  case atStart => exact ⟨0, Nat.zero_le _, rfl, Below.refl _ _⟩
  case round =>
    obtain ⟨kk, hkk, rfl, hbr⟩ := hrel
    have hk1 : (kk : Int) < (nn : Int) := by omega
    have hk2 : (kk : Int) < (ln : Int) := by omega
    obtain ⟨nb, no, hna, hc⟩ := hnm.out kk (by omega)
    subst hna
    have hx2 := hx1.grow hbr.out
    obtain ⟨x0, x1, x2, x3, x4⟩ := hx2.cells
    obtain ⟨nmj, hnj⟩ : ∃ z, Hid (z = NL.getD kk ⟨#[]⟩) := ⟨_, rfl⟩
    rw [← hnj.out] at hc
    have hcw := (hbr.out.cell (p := ⟨nb, no + kk, none⟩) (World.block_lt_of_cell? _ _ hc)).trans hc
    have d1 : ∀ q : Bel wr, q.W.cell? ⟨nb, no + kk, none⟩ = some (.string nmj) := fun q => q.cell hcw
    have d2 : ∀ q : Bel wr, q.W.cell? ⟨w.heap.size, 1, none⟩ = some (.string n) := fun q => q.cell x1
    by_cases hki : kk = i
    · subst hki
      obtain ⟨lb, lo, hla, hva⟩ := hvl.out kk hill
      subst hla
      obtain rfl : nmj = n := by rw [hnj.out]; exact hin
      have hvx2 := hvx.grow hbr.out
      have hfin : Hid (∀ W, Below wr.heap.size wr W → W.cell? ⟨lb, lo + kk * 2, none⟩ = some (.int .i64 (VL.getD kk zer).kind) ∧ W.cell? ⟨lb, lo + kk * 2 + 1, none⟩ = some (.int .i64 (VL.getD kk zer).n) ∧ VlAt W (w.heap.size + 1) zer) := fun W h => by
        have h2 := hbr.out.trans (h.mono hbr.out.size)
        exact ⟨(h2.cell (p := ⟨lb, lo + kk * 2, none⟩) (World.block_lt_of_cell? _ _ hva.1)).trans hva.1, (h2.cell (p := ⟨lb, lo + kk * 2 + 1, none⟩) (World.block_lt_of_cell? _ _ hva.2)).trans hva.2, hvx.grow h2⟩
      rw [hiv.out] at hfin
      clear hnm hvl hva hnj hin hij hc hcw hiv
      go_wp2
      refine wp_region_bel (by kernel_rfl) (by kernel_rfl) ?_
      repeat (go_big_quiet_step (fail))
      refine wpQuiet_nil ?_
      rintro W ⟨q, rfl⟩
      have hq := q.h
      obtain ⟨g0, g1, g2⟩ := hfin.out q.W hq
      generalize q.W = W5 at *
      obtain ⟨y0, y1⟩ := g2.cells
      obtain ⟨f0, f1⟩ := g2.frozen
      go_wp2
      refine ret_cell2 Tryz.results25 rfl (vlSet g2) rfl ⟨rfl, ?_⟩
      exact belTwo _ _ (hb1.trans ((hbr.out.trans (hq.mono hbr.out.size)).mono hb1.size)) (by omega)
    · have hne := toList_ne (by rw [hnj.out]; exact hij kk (by omega) : nmj ≠ n)
      clear hnm hvl hnj hin hij hc hcw
      go_wp2
      refine wp_region_bel (by kernel_rfl) (by kernel_rfl) ?_
      repeat (go_big_quiet_step (fail))
      refine wpQuiet_nil ?_
      rintro W ⟨q, rfl⟩
      have hq := q.h
      go_wp2
      go_roundw
      case rel => exact ⟨kk + 1, by omega, by go_num, hbr.out.trans (hq.mono hbr.out.size)⟩
      case measure => simp [intOf]; omega
end Go.Proofs.YtdhlfpgibfaimaaGreatDoor
/- MathValues: value, at calls; all trees. -/
namespace Go.Proofs.YtdhlfpgibfaimaaGreatDoor
set_option linter.unusedVariables false
open Go.RowKit
theorem row3 (w : World) (u : Vl) : Sls encV ((w.alloc (.cells #[.int .i64 u.kind, .int .i64 u.n] 24)).alloc (.cells #[.int .i64 u.kind, .int .i64 u.n] 24)) (.slice (some ⟨w.heap.size + 1, 0, none⟩) 1 1) [u] := by
  have := sls_one (E := encV) (w.alloc (.cells #[.int .i64 u.kind, .int .i64 u.n] 24)) u #[.int .i64 u.kind, .int .i64 u.n] 24 rfl
  simpa using this
theorem below_app {B : Nat} {w w5 : World} {o p : Obj} (h : B ≤ w.heap.size) (hg : ((w.alloc o).alloc p).grownBy w5 (Value.slice none 0 0).ownBlock) : Below B w w5 := by
  have h1 := (Below.refl B w).alloc h o
  have h2 := h1.alloc (Nat.le_trans h h1.size) p
  exact h2.grown hg (Nat.le_trans h h2.size) (fun k hk => by simp [Value.ownBlock] at hk)
theorem below_own {B : Nat} {w w5 : World} {o p : Obj} {v : Value} {l : List Vl} (ho : OwnS TV ((w.alloc o).alloc p) B v l) (h : B ≤ w.heap.size) (hg : ((w.alloc o).alloc p).grownBy w5 v.ownBlock) : Below B w w5 := by
  have h1 := (Below.refl B w).alloc h o
  have h2 := h1.alloc (Nat.le_trans h h1.size) p
  exact h2.trans (ho.grows (Nat.le_trans h h2.size) hg)
set_option maxRecDepth 100000 in
set_option maxHeartbeats 8000000 in
theorem vaC1 {N : ByteArray} {x : Ex} (hx : VaC x) : VaC (exC N [x]) := by
  intro w A NL VL na nn nc la ln lc V v k n vk vn a m c hN hL hle hl hv hT hR
  obtain ⟨u, hT1, hu, hE, rfl⟩ := hT.inv1
  obtain ⟨rfl, rfl, rfl, q, o, rfl, hq, k1, n1, vk1, vn1, a1, m1, c1, hA1, hV1⟩ := kid1 hv
  rw [refs_1] at hR
  have hb0 := bW0 w (.cells #[.int .i64 3, .string n, .int .i64 vk, .int .i64 vn, .slice (some ⟨q, o, none⟩) 1 c] 27)
  have hb2 := hb0.trans ((bW0 (w.alloc (.cells #[.int .i64 3, .string n, .int .i64 vk, .int .i64 vn, .slice (some ⟨q, o, none⟩) 1 c] 27)) (.cells #[.int .i64 0, .int .i64 0] 24)).mono hb0.size)
  have hx1 := (bxNew w 27 (.int .i64 3) (.string n) (.int .i64 vk) (.int .i64 vn) (.slice (some ⟨q, o, none⟩) 1 c)).grow (bW0 (w.alloc (.cells #[.int .i64 3, .string n, .int .i64 vk, .int .i64 vn, .slice (some ⟨q, o, none⟩) 1 c] 27)) (.cells #[.int .i64 0, .int .i64 0] 24))
  have hvx : VlAt ((w.alloc (.cells #[.int .i64 3, .string n, .int .i64 vk, .int .i64 vn, .slice (some ⟨q, o, none⟩) 1 c] 27)).alloc (.cells #[.int .i64 0, .int .i64 0] 24)) (w.heap.size + 1) zer := vlNew1 w (.cells #[.int .i64 3, .string n, .int .i64 vk, .int .i64 vn, .slice (some ⟨q, o, none⟩) 1 c] 27) zer
  have hK1 : Calls Tryz.prog 25 #[.agg #[.int .i64 k1, .string n1, .int .i64 vk1, .int .i64 vn1, .slice a1 m1 c1], .slice na nn nc, .slice la ln lc] ((w.alloc (.cells #[.int .i64 3, .string n, .int .i64 vk, .int .i64 vn, .slice (some ⟨q, o, none⟩) 1 c] 27)).alloc (.cells #[.int .i64 0, .int .i64 0] 24)) fun e w' => e = .returned (.tuple #[vlV u, .bool true]) ∧ Below ((w.alloc (.cells #[.int .i64 3, .string n, .int .i64 vk, .int .i64 vn, .slice (some ⟨q, o, none⟩) 1 c] 27)).alloc (.cells #[.int .i64 0, .int .i64 0] 24)).heap.size ((w.alloc (.cells #[.int .i64 3, .string n, .int .i64 vk, .int .i64 vn, .slice (some ⟨q, o, none⟩) 1 c] 27)).alloc (.cells #[.int .i64 0, .int .i64 0] 24)) w' := hx _ A NL VL na nn nc la ln lc V u k1 n1 vk1 vn1 a1 m1 c1 (hN.grow hb2) (hL.grow hb2) hle hl (hV1.grow hb2) hT1 (fun r hr => hR r hr)
  obtain ⟨e0, e1, e2, e3, e4⟩ := hA1.grow hb2
  have hDo : Hid (∀ W v', OwnS TV W ((w.alloc (.cells #[.int .i64 3, .string n, .int .i64 vk, .int .i64 vn, .slice (some ⟨q, o, none⟩) 1 c] 27)).alloc (.cells #[.int .i64 0, .int .i64 0] 24)).heap.size v' [u] → Calls Tryz.prog 55 #[.string n, v'] W fun e w' => e = .returned (.tuple #[.agg #[.int .i64 (doV n [u]).kind, .int .i64 (doV n [u]).n], .int .i64 0]) ∧ Below W.heap.size W w') := fun W v' h => by
    have := rdo_any n v' [u] W (vls_of h.sls) (by simp)
    rw [hE] at this
    exact this
  clear hx hv hN hL hle hl hT hT1 hR hV1 hA1 hu hE
  generalize doV n [u] = R at *
  obtain ⟨x0, x1, x2, x3, x4⟩ := hx1.cells
  go_enter Tryz.func25, Tryz.ntmps25
  go_wp2
  generalize hW2 : ((w.alloc (.cells #[.int .i64 3, .string n, .int .i64 vk, .int .i64 vn, .slice (some ⟨q, o, none⟩) 1 c] 27)).alloc (.cells #[.int .i64 0, .int .i64 0] 24)) = V2 at *
  unfold vlV at *
  refine wp_loop_rounds 2 ?_
  rw [rounds_succ]
  go_wp2_with (first
    | (go_at_call 25; refine hK1.mono ?_; clear hK1; rintro e w3 ⟨rfl, hb3⟩)
    | (at_builtin; refine appR TV rfl (.tmp 68) (.tmp 70) rfl V2.heap.size _ _ [] [u] rfl rfl (OwnS.nil _ _) (row3 w3 u) (by rw [World.size_alloc, World.size_alloc]; have := hb3.size; omega) (by simp) ?_; intro v5 w5 ho5 hg5; have hb5 : Below V2.heap.size V2 w5 := hb3.trans (below_app (hb3.size) hg5); clear x0 x1 x2 x3 x4; obtain ⟨x0, x1, x2, x3, x4⟩ := (hx1.grow hb5).cells; obtain ⟨a5, c5, hv5⟩ := ho5.shape; subst hv5))
  rw [rounds_succ]
  have hD := hDo.out w5 _ ho5
  go_wp2_with (first
    | (go_at_call 55; refine hD.mono ?_; clear hD; rintro e w9 ⟨rfl, hb9⟩; have hb9 := hb5.trans (hb9.mono hb5.size); have hv9 := (hvx.grow hb9).alloc (.cells #[.int .i64 R.kind, .int .i64 R.n] 24); obtain ⟨y0, y1⟩ := hv9.cells; obtain ⟨f0, f1⟩ := hv9.frozen))
  refine ret_cell2 Tryz.results25 rfl (vlSet hv9) rfl ⟨rfl, ?_⟩
  exact belTwo _ _ ((hb2.trans (hb9.mono hb2.size)).trans ((bW0 w9 _).mono (by have := hb9.size; have := hb2.size; omega))) (by omega)
set_option maxRecDepth 100000 in
set_option maxHeartbeats 8000000 in
theorem vaC2 {N : ByteArray} {x y : Ex} (hx : VaC x) (hy : VaC y) : VaC (exC N [x, y]) := by
  intro w A NL VL na nn nc la ln lc V v k n vk vn a m c hN hL hle hl hv hT hR
  obtain ⟨u, u2, hT1, hT2, hu, hu2, hE, rfl⟩ := hT.inv2
  obtain ⟨rfl, rfl, rfl, q, o, rfl, hq, ⟨k1, n1, vk1, vn1, a1, m1, c1, hA1, hV1⟩, k2, n2, vk2, vn2, a2, m2, c2, hA2, hV2⟩ := kid2 hv
  rw [refs_2] at hR
  have hb0 := bW0 w (.cells #[.int .i64 3, .string n, .int .i64 vk, .int .i64 vn, .slice (some ⟨q, o, none⟩) 2 c] 27)
  have hb2 := hb0.trans ((bW0 (w.alloc (.cells #[.int .i64 3, .string n, .int .i64 vk, .int .i64 vn, .slice (some ⟨q, o, none⟩) 2 c] 27)) (.cells #[.int .i64 0, .int .i64 0] 24)).mono hb0.size)
  have hx1 := (bxNew w 27 (.int .i64 3) (.string n) (.int .i64 vk) (.int .i64 vn) (.slice (some ⟨q, o, none⟩) 2 c)).grow (bW0 (w.alloc (.cells #[.int .i64 3, .string n, .int .i64 vk, .int .i64 vn, .slice (some ⟨q, o, none⟩) 2 c] 27)) (.cells #[.int .i64 0, .int .i64 0] 24))
  have hvx : VlAt ((w.alloc (.cells #[.int .i64 3, .string n, .int .i64 vk, .int .i64 vn, .slice (some ⟨q, o, none⟩) 2 c] 27)).alloc (.cells #[.int .i64 0, .int .i64 0] 24)) (w.heap.size + 1) zer := vlNew1 w (.cells #[.int .i64 3, .string n, .int .i64 vk, .int .i64 vn, .slice (some ⟨q, o, none⟩) 2 c] 27) zer
  have hK1 : Calls Tryz.prog 25 #[.agg #[.int .i64 k1, .string n1, .int .i64 vk1, .int .i64 vn1, .slice a1 m1 c1], .slice na nn nc, .slice la ln lc] ((w.alloc (.cells #[.int .i64 3, .string n, .int .i64 vk, .int .i64 vn, .slice (some ⟨q, o, none⟩) 2 c] 27)).alloc (.cells #[.int .i64 0, .int .i64 0] 24)) fun e w' => e = .returned (.tuple #[vlV u, .bool true]) ∧ Below ((w.alloc (.cells #[.int .i64 3, .string n, .int .i64 vk, .int .i64 vn, .slice (some ⟨q, o, none⟩) 2 c] 27)).alloc (.cells #[.int .i64 0, .int .i64 0] 24)).heap.size ((w.alloc (.cells #[.int .i64 3, .string n, .int .i64 vk, .int .i64 vn, .slice (some ⟨q, o, none⟩) 2 c] 27)).alloc (.cells #[.int .i64 0, .int .i64 0] 24)) w' := hx _ A NL VL na nn nc la ln lc V u k1 n1 vk1 vn1 a1 m1 c1 (hN.grow hb2) (hL.grow hb2) hle hl (hV1.grow hb2) hT1 (fun r hr => hR r (List.mem_append_left _ hr))
  have hK2 : Hid (∀ W, Below ((w.alloc (.cells #[.int .i64 3, .string n, .int .i64 vk, .int .i64 vn, .slice (some ⟨q, o, none⟩) 2 c] 27)).alloc (.cells #[.int .i64 0, .int .i64 0] 24)).heap.size ((w.alloc (.cells #[.int .i64 3, .string n, .int .i64 vk, .int .i64 vn, .slice (some ⟨q, o, none⟩) 2 c] 27)).alloc (.cells #[.int .i64 0, .int .i64 0] 24)) W → Calls Tryz.prog 25 #[.agg #[.int .i64 k2, .string n2, .int .i64 vk2, .int .i64 vn2, .slice a2 m2 c2], .slice na nn nc, .slice la ln lc] W fun e w' => e = .returned (.tuple #[vlV u2, .bool true]) ∧ Below W.heap.size W w') := fun W h => by
    have h2 := hb2.trans (h.mono hb2.size)
    exact hy _ A NL VL na nn nc la ln lc V u2 k2 n2 vk2 vn2 a2 m2 c2 (hN.grow h2) (hL.grow h2) hle hl (hV2.grow h2) hT2 (fun r hr => hR r (List.mem_append_right _ hr))
  have hA2w := hA2.grow hb2
  obtain ⟨e0, e1, e2, e3, e4⟩ := hA1.grow hb2
  have hDo : Hid (∀ W v', OwnS TV W ((w.alloc (.cells #[.int .i64 3, .string n, .int .i64 vk, .int .i64 vn, .slice (some ⟨q, o, none⟩) 2 c] 27)).alloc (.cells #[.int .i64 0, .int .i64 0] 24)).heap.size v' [u, u2] → Calls Tryz.prog 55 #[.string n, v'] W fun e w' => e = .returned (.tuple #[.agg #[.int .i64 (doV n [u, u2]).kind, .int .i64 (doV n [u, u2]).n], .int .i64 0]) ∧ Below W.heap.size W w') := fun W v' h => by
    have := rdo_any n v' [u, u2] W (vls_of h.sls) (by simp)
    rw [hE] at this
    exact this
  clear hx hy hv hN hL hle hl hT hT1 hT2 hR hV1 hV2 hA1 hA2 hu hu2 hE
  generalize doV n [u, u2] = R at *
  obtain ⟨x0, x1, x2, x3, x4⟩ := hx1.cells
  go_enter Tryz.func25, Tryz.ntmps25
  go_wp2
  generalize hW2 : ((w.alloc (.cells #[.int .i64 3, .string n, .int .i64 vk, .int .i64 vn, .slice (some ⟨q, o, none⟩) 2 c] 27)).alloc (.cells #[.int .i64 0, .int .i64 0] 24)) = V2 at *
  unfold vlV at *
  refine wp_loop_rounds 3 ?_
  rw [rounds_succ]
  go_wp2_with (first
    | (go_at_call 25; refine hK1.mono ?_; clear hK1; rintro e w3 ⟨rfl, hb3⟩)
    | (at_builtin; refine appR TV rfl (.tmp 68) (.tmp 70) rfl V2.heap.size _ _ [] [u] rfl rfl (OwnS.nil _ _) (row3 w3 u) (by rw [World.size_alloc, World.size_alloc]; have := hb3.size; omega) (by simp) ?_; intro v5 w5 ho5 hg5; have hb5 : Below V2.heap.size V2 w5 := hb3.trans (below_app (hb3.size) hg5); clear x0 x1 x2 x3 x4; obtain ⟨x0, x1, x2, x3, x4⟩ := (hx1.grow hb5).cells; obtain ⟨a5, c5, hv5⟩ := ho5.shape; subst hv5))
  rw [rounds_succ]
  clear e0 e1 e2 e3 e4
  obtain ⟨e0, e1, e2, e3, e4⟩ := hA2w.grow hb5
  have hK2' := hK2.out w5 hb5
  clear hK2
  go_wp2_with (first
    | (go_at_call 25; refine hK2'.mono ?_; clear hK2'; rintro e w6 ⟨rfl, hb6⟩)
    | (at_builtin; refine appR TV rfl (.tmp 68) (.tmp 70) rfl V2.heap.size _ _ [u] [u2] rfl rfl (((ho5.stay hb6).alloc _).alloc _) (row3 w6 u2) (by rw [World.size_alloc, World.size_alloc]; have := hb6.size; have := hb5.size; omega) (by simp) ?_; intro v8 w8 ho8 hg8; have hb8 : Below V2.heap.size V2 w8 := hb5.trans ((hb6.mono hb5.size).trans (below_own (((ho5.stay hb6).alloc _).alloc _) (by have := hb6.size; have := hb5.size; omega) hg8)); clear x0 x1 x2 x3 x4; obtain ⟨x0, x1, x2, x3, x4⟩ := (hx1.grow hb8).cells; obtain ⟨a8, c8, hv8⟩ := ho8.shape; subst hv8))
  rw [rounds_succ]
  have hD := hDo.out w8 _ ho8
  go_wp2_with (first
    | (go_at_call 55; refine hD.mono ?_; clear hD; rintro e w9 ⟨rfl, hb9⟩; have hb9 := hb8.trans (hb9.mono hb8.size); have hv9 := (hvx.grow hb9).alloc (.cells #[.int .i64 R.kind, .int .i64 R.n] 24); obtain ⟨y0, y1⟩ := hv9.cells; obtain ⟨f0, f1⟩ := hv9.frozen))
  refine ret_cell2 Tryz.results25 rfl (vlSet hv9) rfl ⟨rfl, ?_⟩
  exact belTwo _ _ ((hb2.trans (hb9.mono hb2.size)).trans ((bW0 w9 _).mono (by have := hb9.size; have := hb2.size; omega))) (by omega)
/-- value. -/
theorem value25 {x : Ex} (h : WF parC x) : VaC x := by
  induction h with
  | n _ => exact vaN _
  | r _ => exact vaR _
  | t _ _ ih => exact vaC1 ih
  | f _ _ ih => exact vaC1 ih
  | o _ _ _ _ _ ih1 ih2 => exact vaC2 ih1 ih2
end Go.Proofs.YtdhlfpgibfaimaaGreatDoor
/- Names that rise, each once; rows of frames. -/
namespace Go.Proofs.YtdhlfpgibfaimaaGreatDoor
set_option linter.unusedVariables false
open Go.RowKit
open Series10 (Sr)
theorem keeps_at {d : Array (List UInt8)} {j : Nat} : Lib.keeps d j = true ↔ j = 0 ∨ d[j]! ≠ d[j - 1]! := by
  unfold Lib.keeps
  simp
theorem compact_mem {zs : List (List UInt8)} {x : List UInt8} (h : x ∈ zs) : x ∈ Lib.compact zs := by
  obtain ⟨i, hi, rfl⟩ := List.getElem_of_mem h
  have hg : ∀ k (hk : k < zs.length), zs.toArray[k]! = zs[k] := fun k hk => by simp [hk]
  have key : ∀ n i (hi : i < zs.length), i ≤ n → zs[i] ∈ Lib.compact zs := by
    intro n
    induction n with
    | zero =>
      intro i hi h0
      obtain rfl : i = 0 := by omega
      unfold Lib.compact Lib.compactUpTo
      rw [List.mem_map]
      exact ⟨0, by simp [keeps_at, hi], hg 0 hi⟩
    | succ n ih =>
      intro i hi hn
      by_cases hk : Lib.keeps zs.toArray i = true
      · unfold Lib.compact Lib.compactUpTo
        rw [List.mem_map]
        exact ⟨i, by simp [hk, hi], hg i hi⟩
      · have h2 : ¬ (i = 0 ∨ zs.toArray[i]! ≠ zs.toArray[i - 1]!) := fun h => hk (keeps_at.2 h)
        have h3 : i ≠ 0 := fun e => h2 (.inl e)
        have h4 : zs.toArray[i]! = zs.toArray[i - 1]! := Classical.not_not.1 fun e => h2 (.inr e)
        rw [hg i hi, hg (i - 1) (by omega)] at h4
        rw [h4]
        exact ih (i - 1) (by omega) (by omega)
  exact key i i hi (Nat.le_refl _)
theorem compact_nodup {zs : List (List UInt8)} (h : zs.Pairwise (· ≤ ·)) : (Lib.compact zs).Nodup := by
  have hg : ∀ k (hk : k < zs.length), zs.toArray[k]! = zs[k] := fun k hk => by simp [hk]
  have hle : ∀ i j (hi : i < zs.length) (hj : j < zs.length), i ≤ j → zs[i] ≤ zs[j] := fun i j hi hj hij => by
    rcases Nat.lt_or_ge i j with h1 | h1
    · exact List.pairwise_iff_getElem.1 h i j hi hj h1
    · obtain rfl : i = j := by omega
      exact List.le_refl _
  unfold Lib.compact Lib.compactUpTo
  rw [List.Nodup, List.pairwise_map]
  have hr : ((List.range zs.length).filter (Lib.keeps zs.toArray)).Pairwise (· < ·) := List.Pairwise.filter _ (List.pairwise_lt_range)
  refine hr.imp_of_mem ?_
  intro i j hi hj hij e
  have hi1 : i < zs.length := by have := (List.mem_filter.1 hi).1; simpa using this
  have hj1 : j < zs.length := by have := (List.mem_filter.1 hj).1; simpa using this
  have hk := keeps_at.1 (List.mem_filter.1 hj).2
  rcases hk with hk | hk
  · omega
  · apply hk
    rw [hg i hi1, hg j hj1] at e
    rw [hg j hj1, hg (j - 1) (by omega)]
    refine List.le_antisymm ?_ (hle (j - 1) j (by omega) hj1 (by omega))
    rw [← e]
    exact hle i (j - 1) hi1 (by omega) (by omega)
theorem srt_sorted (l : List (List UInt8)) : (l.mergeSort fun x y => decide (x ≤ y)).Pairwise (· ≤ ·) := by
  have := List.pairwise_mergeSort (le := fun x y : List UInt8 => decide (x ≤ y)) (fun a b c h1 h2 => by simp only [decide_eq_true_eq] at *; exact List.le_trans h1 h2) (fun a b => by simp only [Bool.or_eq_true, decide_eq_true_eq]; exact List.le_total a b) l
  exact this.imp fun h => by simpa using h
theorem refsR_mem {x : Ex} {r : ByteArray} (h : r ∈ refsE x) : r ∈ refsR x := by
  unfold refsR cmpS'
  have h1 : r.data.toList ∈ lsB (refsE x) := List.mem_map_of_mem h
  have h2 : r.data.toList ∈ (lsB (refsE x)).mergeSort fun x y => decide (x ≤ y) := List.mem_mergeSort.2 h1
  have h3 : r.data.toList ∈ Lib.compact (lsB (srtS (refsE x))) := by
    apply compact_mem
    unfold srtS
    rw [lsB_blS]
    exact h2
  have := List.mem_map_of_mem (f := bB) h3
  rwa [bB_list] at this
theorem refsR_nodup (x : Ex) : (refsR x).Nodup := by
  unfold refsR cmpS' blS
  have h1 : (Lib.compact (lsB (srtS (refsE x)))).Nodup := by
    apply compact_nodup
    unfold srtS
    rw [lsB_blS]
    exact srt_sorted _
  rw [List.Nodup, List.pairwise_map]
  exact h1.imp fun h e => h (bB_inj e)
theorem refsR_len (x : Ex) : (refsR x).length ≤ (refsE x).length := by
  unfold refsR cmpS' blS
  rw [List.length_map]
  have := Lib.compact_length_le (lsB (srtS (refsE x)))
  simpa [lsB, srt_len] using this
/-- A frame in memory. -/
structure Fe where
  ref : ByteArray
  a : Option Addr
  n : Nat
  c : Nat
def encF : Enc Fe where
  arr x := [.string x.ref, .slice x.a x.n x.c]
  d := ⟨⟨#[]⟩, none, 0, 0⟩
  k := 2
  len _ := rfl
  one _ u hu := by simp at hu; rcases hu with rfl | rfl <;> rfl
  pos := by decide
def TF : RowTy encF where
  st := 41
  et := 54
  z := .agg #[.string ⟨#[]⟩, .slice none 0 0]
  bytes := 40
  hu := Tryz.underlying41
  hi := by kernel_rfl
  hz := rfl
  hb := by decide
end Go.Proofs.YtdhlfpgibfaimaaGreatDoor
/- MathValues: the frames, and what the tree comes to. -/
namespace Go.Proofs.YtdhlfpgibfaimaaGreatDoor
set_option linter.unusedVariables false
open Go.RowKit
theorem refs_few {x : Ex} (h : WF parC x) : (refsE x).length ≤ nodes x := by
  induction h with
  | n _ => rw [refs_n, nodes_n]; simp
  | r _ => rw [refs_r, nodes_r]; simp
  | t _ _ ih => rw [refs_1, nodes_1]; omega
  | f _ _ ih => rw [refs_1, nodes_1]; omega
  | o _ _ _ _ _ ih1 ih2 => rw [refs_2, nodes_2, List.length_append]; omega
def frL (NL : List ByteArray) (VL : List Vl) (k : Nat) : List (ByteArray × List Series10.Sr) := (List.range k).map fun i => (NL.getD i ⟨#[]⟩, [⟨[], VL.getD i zer⟩])
theorem frL_at (NL : List ByteArray) (VL : List Vl) (k i : Nat) (h : i < k) : (frL NL VL k).getD i (⟨#[]⟩, []) = (NL.getD i ⟨#[]⟩, [⟨[], VL.getD i zer⟩]) := by
  unfold frL
  rw [List.getD_eq_getElem?_getD, List.getElem?_map, List.getElem?_range h]
  rfl
/-- A single value's row. -/
def ScB (w : World) (b : Nat) (v : Vl) : Prop := w.heap[b]? = some (.cells #[.slice none 0 0, .int .i64 v.kind, .int .i64 v.n] 86 (0, 0))
theorem ScB.lt {w : World} {b : Nat} {v : Vl} (h : ScB w b v) : b < w.heap.size := (Array.getElem?_eq_some_iff.1 h).1
theorem ScB.grow {w w' : World} {b : Nat} {v : Vl} (h : ScB w b v) (hb : Below w.heap.size w w') : ScB w' b v := (hb.block b h.lt).trans h
theorem ScB.ser {w : World} {b : Nat} {v : Vl} (h : ScB w b v) : IsSer w (some ⟨b, 0, none⟩) 1 1 [⟨[], v⟩] := by
  refine ⟨[scal v], rfl, ⟨_, _, rfl, ⟨(fun h => by cases h), by simp⟩, .inr ⟨b, 0, rfl, fun t ht i u hu => ?_⟩⟩, fun x hx => by rw [List.mem_singleton.1 hx]; exact sls_nil _, rfl⟩
  obtain rfl : t = 0 := by simpa using ht
  unfold ScB at h
  unfold World.cell?
  rw [show (0 + 0 * encR.k + i) = i by omega, h]
  have hu2 : ([.slice none 0 0, .int .i64 v.kind, .int .i64 v.n] : List Value)[i]? = some u := hu
  simpa using hu2
set_option maxRecDepth 100000 in
set_option maxHeartbeats 1000000 in
/-- The document's Scalar: where it lies. -/
theorem scal24 (v : Vl) (w : World) : Calls Tryz.prog 24 #[.agg #[.int .i64 v.kind, .int .i64 v.n]] w fun e w' => ∃ b, e = .returned (.slice (some ⟨b, 0, none⟩) 1 1) ∧ Hid (ScB w' b v ∧ Below w.heap.size w w') := by
  have ha := vlNew w v
  obtain ⟨a0, a1⟩ := ha.cells
  have hr : Hid (ScB ((w.alloc (vlO v)).alloc (.cells #[.slice none 0 0, .int .i64 v.kind, .int .i64 v.n] 86)) (w.heap.size + 1) v) := by
    show ((w.heap.push _).push _)[w.heap.size + 1]? = _
    have : (w.heap.push (vlO v)).size = w.heap.size + 1 := by simp
    rw [← this, Array.getElem?_push_size]
  have hb : Hid (Below w.heap.size w ((w.alloc (vlO v)).alloc (.cells #[.slice none 0 0, .int .i64 v.kind, .int .i64 v.n] 86))) := (bW0 w _).alloc (by simp) _
  go_enter Tryz.func24, Tryz.ntmps24
  go_wp2
  go_ret
  exact ⟨_, rfl, hr.out, hb.out⟩
/-- The frames so far. -/
def FrI (w : World) (B : Nat) (v : Value) (NL : List ByteArray) (VL : List Vl) (fs : List Fe) (k : Nat) : Prop := OwnS TF w B v fs ∧ fs.length = k ∧ ∀ i, i < k → ∃ b, fs.getD i encF.d = ⟨NL.getD i ⟨#[]⟩, some ⟨b, 0, none⟩, 1, 1⟩ ∧ ScB w b (VL.getD i zer)
theorem FrI.frs {w : World} {B : Nat} {a : Option Addr} {n c : Nat} {NL : List ByteArray} {VL : List Vl} {fs : List Fe} {k : Nat} (h : FrI w B (.slice a n c) NL VL fs k) : n = k ∧ FrsV w a n (frL NL VL k) := by
  obtain ⟨ho, hl, hf⟩ := h
  have hs := ho.sls
  have hn : n = k := by rw [hs.len, hl]
  refine ⟨hn, by simp [frL, hn], fun i hi => ?_⟩
  obtain ⟨b, o, h1, h2⟩ := Sls.at hs i (by omega)
  obtain ⟨sb, g1, g2⟩ := hf i (by omega)
  rw [frL_at NL VL k i (by omega)]
  rw [g1] at h2
  exact ⟨b, o, some ⟨sb, 0, none⟩, 1, 1, h1, h2 0 _ rfl, h2 1 _ rfl, g2.ser⟩
/-- One frame more. -/
theorem FrI.more {w w4 w8 : World} {B b : Nat} {v v8 : Value} {NL : List ByteArray} {VL : List Vl} {fs : List Fe} {k : Nat} (h : FrI w B v NL VL fs k) (hb4 : Below w.heap.size w w4) (hS : ScB w4 b (VL.getD k zer)) (o : Obj) (ho8 : OwnS TF w8 B v8 (fs ++ [⟨NL.getD k ⟨#[]⟩, some ⟨b, 0, none⟩, 1, 1⟩])) (hg8 : (w4.alloc o).grownBy w8 v.ownBlock) :
    FrI w8 B v8 NL VL (fs ++ [⟨NL.getD k ⟨#[]⟩, some ⟨b, 0, none⟩, 1, 1⟩]) (k + 1) := by
  obtain ⟨ho, hl, hf⟩ := h
  refine ⟨ho8, by simp [hl], fun i hi => ?_⟩
  have ho4 := (ho.stay hb4).alloc o
  have keep : ∀ {sb : Nat} {u : Vl}, ScB w4 sb u → ScB w8 sb u := fun {sb u} h => by
    have h4 := h.grow (bW0 w4 o)
    refine (hg8.block sb h4.lt (fun e => ?_)).trans h4
    rcases ho4.2 with ⟨hv, _⟩ | ⟨g, cap, cur, hv, _, hg, _⟩
    · rw [hv] at e; simp [Value.ownBlock] at e
    · rw [hv] at e
      have : sb = g := by simpa [Value.ownBlock] using e
      rw [this] at h4
      rw [h4] at hg
      injection hg with hg
      injection hg with _ h9
      exact absurd h9 (by decide)
  by_cases hik : i < k
  · obtain ⟨sb, g1, g2⟩ := hf i hik
    refine ⟨sb, ?_, keep (g2.grow hb4)⟩
    rw [List.getD_eq_getElem?_getD, List.getElem?_append_left (by omega), ← List.getD_eq_getElem?_getD]
    exact g1
  · obtain rfl : i = k := by omega
    refine ⟨b, ?_, keep hS⟩
    rw [List.getD_eq_getElem?_getD, List.getElem?_append_right (by omega), hl]
    simp
theorem frL_few (NL : List ByteArray) (VL : List Vl) (k : Nat) : ∀ p ∈ frL NL VL k, Few p.2 := fun p hp => by
  unfold frL at hp
  obtain ⟨i, _, rfl⟩ := List.mem_map.1 hp
  exact Few.scal _
theorem idx_of {NL : List ByteArray} {r : ByteArray} (h : r ∈ NL) : ∃ i, i < NL.length ∧ NL.getD i ⟨#[]⟩ = r ∧ ∀ j, j < i → NL.getD j ⟨#[]⟩ ≠ r := by
  induction NL with
  | nil => cases h
  | cons a l ih =>
    by_cases e : a = r
    · exact ⟨0, by simp, by simpa using e, fun j hj => absurd hj (by omega)⟩
    · obtain ⟨i, h1, h2, h3⟩ := ih ((List.mem_cons.1 h).resolve_left fun x => e x.symm)
      refine ⟨i + 1, by simpa using h1, by simpa using h2, fun j hj => ?_⟩
      cases j with
      | zero => simpa using e
      | succ j => simpa using h3 j (by omega)
theorem look_env {NL : List ByteArray} {VL : List Vl} (hN : NL.Nodup) {r : ByteArray} (h : r ∈ NL) : ∃ v, LookAt NL VL r v ∧ envE (frL NL VL NL.length) r = some [⟨[], v⟩] ∧ ∃ i, i < NL.length ∧ v = VL.getD i zer := by
  obtain ⟨i, h1, h2, h3⟩ := idx_of h
  refine ⟨VL.getD i zer, ⟨i, h1, h2, rfl, h3⟩, ?_, i, h1, rfl⟩
  have := env_at (l := frL NL VL NL.length) (n := r) (i := i) (by simpa [frL] using h1) (by rw [frL_at _ _ _ _ h1]; exact h2) (fun j hj hjl => by
    have hjl' : j < NL.length := by simpa [frL] using hjl
    rw [frL_at _ _ _ _ hjl']
    intro e
    have h4 : NL[i] = NL[j] := by
      have a1 : NL.getD i ⟨#[]⟩ = NL[i] := by rw [List.getD_eq_getElem?_getD, List.getElem?_eq_getElem h1]; rfl
      have a2 : NL.getD j ⟨#[]⟩ = NL[j] := by rw [List.getD_eq_getElem?_getD, List.getElem?_eq_getElem hjl']; rfl
      rw [← a1, ← a2, h2]; exact e.symm
    exact List.pairwise_iff_getElem.1 hN i j h1 hjl' hj h4)
  rw [this, frL_at _ _ _ _ h1]
open Classical in
/-- What the tree comes to. -/
theorem vals_of {X : Ex} (hX : WF parC X) {VL : List Vl} (hV : ∀ v ∈ VL, IsV v) (hl : (refsR X).length ≤ VL.length) : ∃ (V : ByteArray → Vl) (v : Vl), VaT V X v ∧ IsV v ∧ EvT (envE (frL (refsR X) VL (refsR X).length)) X [⟨[], v⟩] 0 ∧ ∀ r ∈ refsE X, LookAt (refsR X) VL r (V r) := by
  have key := fun r (hr : r ∈ refsE X) => look_env (VL := VL) (refsR_nodup X) (refsR_mem hr)
  refine ⟨fun r => if h : r ∈ refsE X then (key r h).choose else zer, ?_⟩
  have hc : ∀ r (hr : r ∈ refsE X), (if h : r ∈ refsE X then (key r h).choose else zer) = (key r hr).choose := fun r hr => by rw [dif_pos hr]
  obtain ⟨v, h1, h2, h3⟩ := EvT.scal (par := parC) (fun s v h => (parC_yes h).1) (E := envE (frL (refsR X) VL (refsR X).length)) (V := fun r => if h : r ∈ refsE X then (key r h).choose else zer) hX (fun n hn => by
    have hs := (key n hn).choose_spec
    simp only [hc n hn]
    refine ⟨hs.2.1, ?_⟩
    obtain ⟨i, hi, e⟩ := hs.2.2
    rw [e]
    apply hV
    rw [List.getD_eq_getElem?_getD, List.getElem?_eq_getElem (by omega)]
    exact List.getElem_mem _)
  refine ⟨v, h1, h2, h3, fun r hr => ?_⟩
  simp only [hc r hr]
  exact (key r hr).choose_spec.1
end Go.Proofs.YtdhlfpgibfaimaaGreatDoor
/- Values that came in. -/
namespace Go.Proofs.YtdhlfpgibfaimaaGreatDoor
set_option linter.unusedVariables false
open Go.RowKit Go.Maps Go.ChangeMaps Go.MapKept Go.ChangeShapes Go.WideShapes Go.ChangeAt Go.Deep
section
variable {H : Type} {enc : TypeId × Value → H} {W : World} {n : Nat}
theorem cells2_at {b o : Nat} {cs : List Value} (h : W.cells? 0 ⟨b, o, none⟩ 2 = some cs) : ∃ v0 v1, cs = [v0, v1] ∧ W.cell? ⟨b, o, none⟩ = some v0 ∧ W.cell? ⟨b, o + 1, none⟩ = some v1 := by
  obtain ⟨_, hlen, hcell⟩ := World.cells?_some h
  match cs, hlen with
  | [v0, v1], _ =>
    have e0 := hcell 0 (by omega)
    have e1 := hcell 1 (by omega)
    rw [ladd_at] at e0 e1
    exact ⟨v0, v1, rfl, by simpa using e0, by simpa using e1⟩
theorem vals_of_trod {v : Value} {x : DataW H × List MemPlace} (h : DataW.trod enc Tryz.prog W 0 (fun _ => true) true n 50 [v] = some x) : ∃ l, Vls W v l := by
  rcases open_slice Tryz.underlying50 h with ⟨hcs, _⟩ | ⟨a, len, cap, m, k, D, Pl, hcs, _, hl, hm, hmm, hxx, hx⟩
  · simp at hcs
    subst hcs
    exact ⟨[], none, 0, rfl, .inl rfl⟩
  · simp at hcs hmm
    subst hcs hmm
    have k24 : Tryz.prog.cellsOf 24 = 2 := by kernel_rfl
    rw [k24] at hx
    by_cases h0 : len = 0
    · subst h0
      exact ⟨[], some a, m, rfl, .inl rfl⟩
    · obtain ⟨b, o, spot⟩ := a
      obtain ⟨cs0, hc0, _⟩ := hx 0 (by omega)
      obtain ⟨_, hlen0, hcell0⟩ := World.cells?_some hc0
      have hc00 := hcell0 0 (by omega)
      rw [List.getElem?_eq_getElem (by omega)] at hc00
      have hspot : spot = none := by simpa [Addr.add] using World.cell?_spot hc00
      subst hspot
      have hv : ∀ i, i < len → ∃ q : Vl, VAt W b (o + i * 2) q := fun i hi => by
        obtain ⟨cs, h1, h2⟩ := hx i (by omega)
        rw [ladd_at] at h1
        obtain ⟨v0, v1, rfl, c0, c1⟩ := cells2_at h1
        obtain ⟨q, hq⟩ := vl_cells (by simp) h2
        simp only [List.cons.injEq, and_true] at hq
        obtain ⟨rfl, rfl⟩ := hq
        exact ⟨q, c0, c1⟩
      obtain ⟨q, hq⟩ : ∃ q : Nat → Vl, ∀ i, i < len → VAt W b (o + i * 2) (q i) := by
        refine ⟨fun i => if hi : i < len then Classical.choose (hv i hi) else zer, fun i hi => ?_⟩
        simp only [hi, dif_pos]
        exact Classical.choose_spec (hv i hi)
      refine ⟨(List.range len).map q, some ⟨b, o, none⟩, m, by simp, .inr ⟨b, o, rfl, fun t ht => ?_⟩⟩
      have ht' : t < len := by simpa using ht
      have eg : ((List.range len).map q).getD t zer = q t := by simp [ht']
      rw [eg]
      exact hq t ht'
end
end Go.Proofs.YtdhlfpgibfaimaaGreatDoor
