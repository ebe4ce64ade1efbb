/- The document's Due 17. -/
import Derived.Test.YtnbhnnjgnojgbaaAh
namespace Go.Proofs.Ytnbhnnjgnojgbaa
set_option linter.unusedVariables false
open Go.RowKit
/-- append(s, x...) inside a region that draws, x nil or not. -/
theorem stepN {α : Type} {E : Enc α} (T : RowTy E) {ops : Array Oper} {o : Oper} {a : Act} {w : World} {K : Act → World → Prop} {Q : Exit → Act → World → Prop} {F : Prop} (hg : o.guard = none) (s x : Operand)
    (hop : o.op = Op.call { callee := Callee.builtin Builtin.append, args := #[s, x], argTypes := #[T.st, T.st] }) (base : Nat) (v u : Value) (l m : List α) (hs : a.eval s = v) (hx : a.eval x = u)
    (hown : OwnS T w base v l) (hm : Sls E w u m) (hbase : base ≤ w.heap.size) (hlen : l.length + m.length ≤ 1000000000)
    (h : ∀ v' w', OwnS T w' base v' (l ++ m) → w.grownBy w' v.ownBlock → K (a.put o.dst v') w') : if Region.wanted o (yielded ops a.tmps) = true then Oper.wp Try.prog o a w K Q else F := by
  obtain ⟨ad, c, rfl, hnil, hcell⟩ := hm
  cases ad with
  | none =>
    have hms : m = [] := by
      rcases hcell with hcell | ⟨_, _, e, _⟩
      · exact hcell
      · cases e
    subst hms
    obtain rfl := hnil.1 rfl
    have hw : Region.wanted o (yielded ops a.tmps) = true := by simp [Region.wanted, hg]
    rw [if_pos hw]
    obtain ⟨i0, hi, hz0, hz1, hz2⟩ := info_parts T.hi
    have hrun := run_append_owned_none (P := Try.prog) (w := w) base T.st o.type T.et i0 E.k T.hu hi v l.length (flat E l) hown
    have hx' : a.eval x = .slice none 0 0 := hx
    unfold Oper.wp
    simp [execOp, hop, resolve, invoke, builtin, hs, hx', hrun, Result.andThen]
    exact h v w (by simpa using hown) (grown_refl _ _)
  | some ad => exact stepR T hg s x hop base v ad m.length c l m hs hx hown ⟨_, _, rfl, hnil, hcell⟩ hbase hlen h
theorem Sls.kept {α : Type} {E : Enc α} {w w' : World} {g o n c : Nat} {r : Option Nat} {l : List α} (h : Sls E w (.slice (some ⟨g, o, none⟩) n c) l) (hg : w.grownBy w' r) (hne : some g ≠ r) : Sls E w' (.slice (some ⟨g, o, none⟩) n c) l := by
  obtain ⟨a, c', e, hn, h⟩ := h
  refine ⟨a, c', e, hn, ?_⟩
  rcases h with h | ⟨b, o', e2, h⟩
  · exact .inl h
  · cases e
    cases e2
    refine .inr ⟨g, o, rfl, fun t ht i u hu => ?_⟩
    have h1 := h t ht i u hu
    have hlt := World.block_lt_of_cell? w _ h1
    rw [← h1]
    simp only [World.cell?, hg.block g hlt hne]
theorem elem22 : Try.prog.underlying 22 = some (.slice (Try.prog.elem 22)) := by kernel_rfl
theorem size22 (W : World) : (sizeOf (Try.prog.elem 22)).run Try.prog W = .ok 7 W := by kernel_rfl
/-- v[:k], v[k:]. -/
theorem jbs_to {w : World} {v : Value} {R : List Jb} (h : Jbs w v R) (k : Nat) (hk : k ≤ R.length) : ∃ v2, (∀ W, (Instr.slice 22 v none (some (.int .i64 (k : Int))) none).run Try.prog W = .ok v2 W) ∧ ∀ W, Jbs W v R → Jbs W v2 (R.take k) := by
  obtain ⟨a, c, rfl, ⟨hn, hc⟩, h1⟩ := h
  refine ⟨sliced a 0 k c 7, fun W => ?_, fun W hW => ⟨if c = 0 then a else a.map (·.add (0 * 7)), c - 0, by simp only [sliced, List.length_take, Nat.min_eq_left hk, Nat.sub_zero], ⟨fun e => ?_, by simp; omega⟩, ?_⟩⟩
  · rw [run_slice_h W 22 a R.length c elem22 .i64 k (by omega) (by omega), size22]; simp [Result.andThen]
  · by_cases h : c = 0
    · omega
    · rw [if_neg h] at e
      simp at e; have := hn e; omega
  · obtain ⟨a', c', e, _, h1⟩ := hW
    cases e
    rcases h1 with rfl | ⟨b, o, rfl, hr⟩
    · exact .inl (by simp)
    · by_cases h : k = 0
      · exact .inl (by simp [h])
      · refine .inr ⟨b, o, ?_, fun t ht => ?_⟩
        · rw [if_neg (by omega)]; simp [add_at]
        · rw [List.length_take] at ht
          have := hr t (by omega)
          have e : (R.take k).getD t eJb.d = R.getD t eJb.d := by simp [show t < k by omega]
          rw [e]; exact this
theorem jbs_from {w : World} {v : Value} {R : List Jb} (h : Jbs w v R) (k : Nat) (hk : k ≤ R.length) : ∃ v2, (∀ W, (Instr.slice 22 v (some (.int .i64 (k : Int))) none none).run Try.prog W = .ok v2 W) ∧ ∀ W, Jbs W v R → Jbs W v2 (R.drop k) := by
  obtain ⟨a, c, rfl, ⟨hn, hc⟩, h1⟩ := h
  refine ⟨sliced a k R.length c 7, fun W => ?_, fun W hW => ⟨if c = k then a else a.map (·.add (k * 7)), c - k, by simp only [sliced, List.length_drop], ⟨fun e => ?_, by simp; omega⟩, ?_⟩⟩
  · rw [run_slice_l W 22 a R.length c elem22 .i64 k (by omega) (by omega), size22]; simp [Result.andThen]
  · by_cases h : c = k
    · omega
    · rw [if_neg h] at e
      simp at e; have := hn e; omega
  · obtain ⟨a', c', e, _, h1⟩ := hW
    cases e
    rcases h1 with rfl | ⟨b, o, rfl, hr⟩
    · exact .inl (by simp)
    · by_cases h : k = R.length
      · exact .inl (by simp [h])
      · refine .inr ⟨b, o + k * 7, ?_, fun t ht => ?_⟩
        · rw [if_neg (by omega)]; simp [add_at]
        · rw [List.length_drop] at ht
          have := hr (k + t) (by omega)
          rw [show (R.drop k).getD t eJb.d = R.getD (k + t) eJb.d by rw [List.getD_eq_getElem?_getD, List.getD_eq_getElem?_getD, List.getElem?_drop]]
          intro i u hu
          have h3 := this i u hu
          rw [← h3]
          congr 2
          show o + k * 7 + t * 7 + i = o + (k + t) * 7 + i
          omega
def posF (D : List Jb) (x : Jb) : Nat → Nat
  | 0 => 0
  | k + 1 => if cmpJ x (D.getD k jb0) < 0 then posF D x k else k + 1
theorem posF_le (D : List Jb) (x : Jb) : ∀ k, posF D x k ≤ k
  | 0 => Nat.le_refl _
  | k + 1 => by
    unfold posF
    split
    · have := posF_le D x k; omega
    · exact Nat.le_refl _
/-- x behind all that it is not ahead of. -/
def insD (D : List Jb) (x : Jb) : List Jb := D.take (posF D x D.length) ++ [x] ++ D.drop (posF D x D.length)
theorem insD_len (D : List Jb) (x : Jb) : (insD D x).length = D.length + 1 := by
  have := posF_le D x D.length
  simp [insD]; omega
def rduL (now : Int) (l : List Jb) : List Jb := (dueL now l).foldl insD []
theorem rduL_len (now : Int) (l : List Jb) : (rduL now l).length = (dueL now l).length := by
  have key : ∀ (m D : List Jb), (m.foldl insD D).length = D.length + m.length := by
    intro m
    induction m with
    | nil => intro D; simp
    | cons x m ih => intro D; rw [List.foldl_cons, ih, insD_len, List.length_cons]; omega
  unfold rduL
  rw [key]; simp
theorem rduL_snoc (now : Int) (l : List Jb) (k : Nat) (h : k < l.length) : rduL now (l.take (k + 1)) = if isB (l.getD k jb0) now = true then insD (rduL now (l.take k)) (l.getD k jb0) else rduL now (l.take k) := by
  unfold rduL
  rw [dueL_snoc now l k h]
  split
  · rw [List.foldl_append]; rfl
  · rfl
theorem rg_end {wq X w4 : World} {v : Value} {L : List Jb} (hX : Below wq.heap.size wq X) (hown : OwnS TJ X wq.heap.size v L) (hg : X.grownBy w4 v.ownBlock) : Below wq.heap.size wq w4 := hX.trans (OwnS.grows hown hX.size hg)
theorem bel_al {A B : World} (h : Below A.heap.size A B) (o : Obj) : Below A.heap.size A (B.alloc o) := h.alloc h.size o
set_option maxRecDepth 100000 in
set_option maxHeartbeats 4000000 in
theorem rdue17 (v : Value) (l : List Jb) (now : Int) (w : World) (hv : Jbs w v l) (hok : ∀ j ∈ l, Ok j) (hl : l.length ≤ 100000) (h0 : -1 ≤ now) (h1 : now ≤ 4398046511104) :
    Calls Try.prog 17 #[.int .i64 now, v] w fun e w' => ∃ y, e = .returned y ∧ OwnS TJ w' w.heap.size y (rduL now l) ∧ Below w.heap.size w w' := by
  obtain ⟨va, vc, rfl⟩ := hv.shape
  have hS := fun j W (h : Ok j) => ris19 j now W h h0 h1
  unfold encJ at hS
  replace hS : Hid _ := hS
  go_enter Try.func17, Try.ntmps17
  go_wp2
  go_loopw [5, 6] (fun ov i wr => ∃ k : Nat, k ≤ l.length ∧ i = .int .i64 k ∧ Hid (OwnS TJ wr w.heap.size ov (rduL now (l.take k))) ∧ Hid (Below w.heap.size w wr)) (fun _ i _ => l.length - (intOf i).toNat)
  case atStart => exact ⟨0, Nat.zero_le _, rfl, OwnS.nil _ _, Below.refl _ _⟩
  case round =>
    obtain ⟨k, hk, rfl, hO, hB⟩ := hrel
    by_cases hlt : k < l.length
    · have hki : (k : Int) < (l.length : Int) := by omega
      obtain ⟨b, o, rfl, hat⟩ := jb_at (Sls.grow hv hB.out) k hlt
      obtain ⟨y0, y1, y2, y3, y4, y5, y6⟩ := at_jb hat
      have hcl0 : ∀ W, Below w.heap.size w W → _ := fun W hW => at_jb (show At eJb W b (o + k * 7) (l.getD k jb0) from by obtain ⟨b', o', e, h⟩ := jb_at (Sls.grow hv hW) k hlt; cases e; exact h)
      have hokj := hok _ (getD_mem l jb0 k hlt)
      have hsn : Hid _ := rduL_snoc now l k hlt
      have hDl : (rduL now (l.take k)).length ≤ k := by rw [rduL_len]; have := dueL_len now (l.take k); rw [List.length_take] at this; omega
      clear hat
      generalize l.getD k jb0 = j at *
      have hS2 := fun W => hS.out j W hokj
      obtain ⟨D, hD⟩ : ∃ D, D = rduL now (l.take k) := ⟨_, rfl⟩
      rw [← hD] at hO hsn hDl
      clear hD
      cases hib : isB j now with
      | false =>
        rw [hib] at hS2
        rw [hib, if_neg (by decide)] at hsn
        go_wp2_with (go_at_call 19; refine (hS2 _).mono ?_; rintro e w3 ⟨rfl, hb3⟩)
        refine ⟨⟨k + 1, by omega, by go_num, (show OwnS TJ w3 w.heap.size u5 (rduL now (l.take (k + 1))) from hsn.out ▸ OwnS.stay hO.out hb3), hB.out.trans (hb3.mono hB.out.size)⟩, ?_⟩
        simp [intOf]; omega
      | true =>
        rw [hib] at hS2
        rw [hib, if_pos rfl] at hsn
        clear hib
        obtain ⟨oa, oc, hou⟩ := hO.out.shape
        subst hou
        go_wp2_with (go_at_call 19; refine (hS2 _).mono ?_; rintro e w3 ⟨rfl, hb3⟩)
        have hcl : Hid (∀ W, Below w.heap.size w W → W.cell? ⟨b, o + k * 7, none⟩ = some (.string j.fo) ∧ W.cell? ⟨b, o + k * 7 + 1, none⟩ = some (.string j.gr) ∧ W.cell? ⟨b, o + k * 7 + 2, none⟩ = some (.int .i64 j.id) ∧ W.cell? ⟨b, o + k * 7 + 3, none⟩ = some (.int .i64 j.iv) ∧ W.cell? ⟨b, o + k * 7 + 4, none⟩ = some (.int .i64 j.off) ∧ W.cell? ⟨b, o + k * 7 + 5, none⟩ = some (.bool j.pa) ∧ W.cell? ⟨b, o + k * 7 + 6, none⟩ = some (.int .i64 j.la)) := hcl0
        have hO3 : Hid (OwnS TJ w3 w.heap.size (.slice oa D.length oc) D) := OwnS.stay hO.out hb3
        have hB3 : Hid (Below w.heap.size w w3) := hB.out.trans (hb3.mono hB.out.size)
        obtain ⟨PP, hPP⟩ : ∃ PP, PP = posF D j D.length := ⟨_, rfl⟩
        have hsn2 : Hid (rduL now (l.take (k + 1)) = D.take PP ++ [j] ++ D.drop PP) := by show _ = _; rw [hsn.out, hPP]; rfl
        replace hPP : Hid (posF D j D.length = PP) := hPP.symm
        clear hsn hO hB hb3 hS2 hcl0 y0 y1 y2 y3 y4 y5 y6
        go_loopw [7] (fun qv wx => ∃ q : Nat, q ≤ D.length ∧ qv = .int .i64 q ∧ Hid (posF D j q = PP) ∧ Hid (OwnS TJ wx w.heap.size (.slice oa D.length oc) D) ∧ Hid (Below w.heap.size w wx)) (fun qv _ => (intOf qv).toNat)
        case atStart => exact ⟨D.length, Nat.le_refl _, rfl, hPP.out, hO3.out, hB3.out⟩
        case round =>
          obtain ⟨q, hq, rfl, hP, hOw, hBw⟩ := hrel
          obtain ⟨y0, y1, y2, y3, y4, y5, y6⟩ := hcl.out wr hBw.out
          by_cases hq0 : 0 < q
          · have hqi : (0 : Int) < (q : Int) := by omega
            have d1 : decide ((0 : Int) < (q : Int)) = true := decide_eq_true hqi
            have d2 : decide (0 < q) = true := decide_eq_true hq0
            obtain ⟨p, hp⟩ : ∃ p, q = p + 1 := ⟨q - 1, by omega⟩
            have w1 : IntKind.i64.wrap ((q : Int) - 1) = (p : Int) := by rw [Go.IntWalk.i64_in _ (by omega)]; omega
            have hpD : p < D.length := by omega
            have hpi : (p : Int) < (D.length : Int) := by omega
            obtain ⟨g, o2, hoa, hat⟩ := jb_at hOw.out.sls p hpD
            obtain ⟨z0, z1, z2, z3, z4, z5, z6⟩ := at_jb hat
            have hPs := hP.out
            rw [hp] at hPs
            have hyes : cmpJ j (D.getD p jb0) < 0 → Hid (posF D j p = PP) := fun h => by
              show _ = _
              rw [← hPs, posF, if_pos h]
            have hno : ¬ cmpJ j (D.getD p jb0) < 0 → PP = q := fun h => by rw [← hPs, posF, if_neg h, hp]
            have hpq : p ≤ D.length ∧ p < q := by omega
            clear hp hat hPs
            obtain ⟨y, hy⟩ : ∃ y, y = D.getD p jb0 := ⟨_, rfl⟩
            rw [← hy] at z0 z1 z2 z3 z4 z5 z6 hyes hno
            clear hy
            subst hoa
            have c0 : ∀ zz : Bel wr, zz.W.cell? ⟨b, o + k * 7, none⟩ = some (.string j.fo) := fun zz => zz.cell y0
            have c1 : ∀ zz : Bel wr, zz.W.cell? ⟨b, o + k * 7 + 1, none⟩ = some (.string j.gr) := fun zz => zz.cell y1
            have c2 : ∀ zz : Bel wr, zz.W.cell? ⟨b, o + k * 7 + 2, none⟩ = some (.int .i64 j.id) := fun zz => zz.cell y2
            have c3 : ∀ zz : Bel wr, zz.W.cell? ⟨b, o + k * 7 + 3, none⟩ = some (.int .i64 j.iv) := fun zz => zz.cell y3
            have c4 : ∀ zz : Bel wr, zz.W.cell? ⟨b, o + k * 7 + 4, none⟩ = some (.int .i64 j.off) := fun zz => zz.cell y4
            have c5 : ∀ zz : Bel wr, zz.W.cell? ⟨b, o + k * 7 + 5, none⟩ = some (.bool j.pa) := fun zz => zz.cell y5
            have c6 : ∀ zz : Bel wr, zz.W.cell? ⟨b, o + k * 7 + 6, none⟩ = some (.int .i64 j.la) := fun zz => zz.cell y6
            have e0 : ∀ zz : Bel wr, zz.W.cell? ⟨g, o2 + p * 7, none⟩ = some (.string y.fo) := fun zz => zz.cell z0
            have e1 : ∀ zz : Bel wr, zz.W.cell? ⟨g, o2 + p * 7 + 1, none⟩ = some (.string y.gr) := fun zz => zz.cell z1
            have e2 : ∀ zz : Bel wr, zz.W.cell? ⟨g, o2 + p * 7 + 2, none⟩ = some (.int .i64 y.id) := fun zz => zz.cell z2
            have e3 : ∀ zz : Bel wr, zz.W.cell? ⟨g, o2 + p * 7 + 3, none⟩ = some (.int .i64 y.iv) := fun zz => zz.cell z3
            have e4 : ∀ zz : Bel wr, zz.W.cell? ⟨g, o2 + p * 7 + 4, none⟩ = some (.int .i64 y.off) := fun zz => zz.cell z4
            have e5 : ∀ zz : Bel wr, zz.W.cell? ⟨g, o2 + p * 7 + 5, none⟩ = some (.bool y.pa) := fun zz => zz.cell z5
            have e6 : ∀ zz : Bel wr, zz.W.cell? ⟨g, o2 + p * 7 + 6, none⟩ = some (.int .i64 y.la) := fun zz => zz.cell z6
            obtain ⟨C, hC⟩ : ∃ C, C = cmpJ j y := ⟨_, rfl⟩
            have k26 : ∀ q : Bel wr, Calls Try.prog 26 #[.agg #[.string j.fo, .string j.gr, .int .i64 j.id, .int .i64 j.iv, .int .i64 j.off, .bool j.pa, .int .i64 j.la], .agg #[.string y.fo, .string y.gr, .int .i64 y.id, .int .i64 y.iv, .int .i64 y.off, .bool y.pa, .int .i64 y.la]] q.W fun e w' => e = .returned (.bool (decide (cmpJ j y < 0))) ∧ Below q.W.heap.size q.W w' := fun q => ahead26 j y q.W
            rw [← hC] at k26 hyes hno
            clear hC z0 z1 z2 z3 z4 z5 z6 y0 y1 y2 y3 y4 y5 y6
            by_cases hc : C < 0
            · have d3 : decide (C < 0) = true := decide_eq_true hc
              have hn := hyes hc
              clear hyes hno
              rw [d3] at k26
              go_upto_region 7 with fail
              refine wp_region_bel (by kernel_rfl) (by kernel_rfl) ?_
              repeat (go_big_quiet_step (first | (go_at_call 26; exact Calls.bel (k26 _))))
              refine wpQuiet_nil ?_
              rintro wq ⟨⟨wz, hqq⟩, rfl⟩
              have hOq : Hid (OwnS TJ wq w.heap.size (.slice (some ⟨g, o2, none⟩) D.length oc) D) := OwnS.stay hOw.out hqq
              have hBq : Hid (Below w.heap.size w wq) := hBw.out.trans (hqq.mono hBw.out.size)
              clear c0 c1 c2 c3 c4 c5 c6 e0 e1 e2 e3 e4 e5 e6 k26 hqq
              go_wp2
              refine ⟨⟨p, hpq.1, by go_num, hn.out, hOq.out, hBq.out⟩, ?_⟩
              simp [intOf]; omega
            · have d3 : decide (C < 0) = false := decide_eq_false hc
              have hPq := hno hc
              clear hyes hno
              rw [d3] at k26
              go_upto_region 7 with fail
              refine wp_region_bel (by kernel_rfl) (by kernel_rfl) ?_
              repeat (go_big_quiet_step (first | (go_at_call 26; exact Calls.bel (k26 _))))
              refine wpQuiet_nil ?_
              rintro wq ⟨⟨wz, hqq⟩, rfl⟩
              have hOq : Hid (OwnS TJ wq w.heap.size (.slice (some ⟨g, o2, none⟩) D.length oc) D) := OwnS.stay hOw.out hqq
              have hBq : Hid (Below w.heap.size w wq) := hBw.out.trans (hqq.mono hBw.out.size)
              clear c0 c1 c2 c3 c4 c5 c6 e0 e1 e2 e3 e4 e5 e6 k26 hqq hP hOw hBw
              rw [hPq] at hsn2
              clear hPq
              obtain ⟨v2, hr2, hv2⟩ := jbs_to hOq.out.sls q (by omega)
              obtain ⟨v3, hr3, hv3⟩ := jbs_from hOq.out.sls q (by omega)
              replace hr2 : ∀ W, (Instr.slice 22 (.slice (some ⟨g, o2, none⟩) D.length oc) none (some (.int .i64 (q : Int))) none).run Try.prog W = .ok v2 W := hr2
              replace hr3 : ∀ W, (Instr.slice 22 (.slice (some ⟨g, o2, none⟩) D.length oc) (some (.int .i64 (q : Int))) none none).run Try.prog W = .ok v3 W := hr3
              obtain ⟨x0, x1, x2, x3, x4, x5, x6⟩ := hcl.out wq hBq.out
              have hsz9 := hBq.out.size
              have hqD : q ≤ D.length := by omega
              have L1 : ([] : List Jb).length + (D.take q).length ≤ 1000000000 := by rw [List.length_take, List.length_nil]; omega
              have L2 : (D.take q).length + [j].length ≤ 1000000000 := by rw [List.length_take, List.length_singleton]; omega
              have L3 : (D.take q ++ [j]).length + (D.drop q).length ≤ 1000000000 := by rw [List.length_append, List.length_take, List.length_singleton, List.length_drop]; omega
              have hl1 : Jbs wq v2 (D.take q) := hv2 wq hOq.out.sls
              have hl2 : Jbs wq v3 (D.drop q) := hv3 wq hOq.out.sls
              have hSC : ∀ W, Below wq.heap.size wq W → _ := fun W hW => hcl.out W (hBq.out.trans (hW.mono hsz9))
              have hone : ∀ W : World, Jbs (W.alloc (.cells #[.string j.fo, .string j.gr, .int .i64 j.id, .int .i64 j.iv, .int .i64 j.off, .bool j.pa, .int .i64 j.la] 27)) (.slice (some ⟨W.heap.size, 0, none⟩) 1 1) [j] := fun W => sls_one W j _ _ rfl
              have bA : Below wq.heap.size wq (wq.alloc (.cells #[] 27)).drew := ((Below.refl _ _).alloc (Nat.le_refl _) _).drew
              have bB : Below wq.heap.size wq ((wq.alloc (.cells #[] 27)).alloc (.cells #[.string j.fo, .string j.gr, .int .i64 j.id, .int .i64 j.iv, .int .i64 j.off, .bool j.pa, .int .i64 j.la] 27)).drew := (((Below.refl _ _).alloc (Nat.le_refl _) _).alloc (by simp) _).drew
              have bC : Below wq.heap.size wq ((wq.alloc (.cells #[.string j.fo, .string j.gr, .int .i64 j.id, .int .i64 j.iv, .int .i64 j.off, .bool j.pa, .int .i64 j.la] 27)).alloc (.cells #[] 27)).drew := (((Below.refl _ _).alloc (Nat.le_refl _) _).alloc (by simp) _).drew
              have oA : OwnS TJ (wq.alloc (.cells #[] 27)).drew wq.heap.size (.slice (some ⟨wq.heap.size, 0, none⟩) 0 0) [] := own_empty (T := TJ) wq wq.heap.size (Nat.le_refl _)
              have oB : OwnS TJ ((wq.alloc (.cells #[] 27)).alloc (.cells #[.string j.fo, .string j.gr, .int .i64 j.id, .int .i64 j.iv, .int .i64 j.off, .bool j.pa, .int .i64 j.la] 27)).drew wq.heap.size (.slice (some ⟨wq.heap.size, 0, none⟩) 0 0) [] := OwnS.alloc (own_empty (T := TJ) wq wq.heap.size (Nat.le_refl _)) _
              have oC : OwnS TJ ((wq.alloc (.cells #[.string j.fo, .string j.gr, .int .i64 j.id, .int .i64 j.iv, .int .i64 j.off, .bool j.pa, .int .i64 j.la] 27)).alloc (.cells #[] 27)).drew wq.heap.size (.slice (some ⟨wq.heap.size + 1, 0, none⟩) 0 0) [] := by
                have := own_empty (T := TJ) (wq.alloc (.cells #[.string j.fo, .string j.gr, .int .i64 j.id, .int .i64 j.iv, .int .i64 j.off, .bool j.pa, .int .i64 j.la] 27)) wq.heap.size (by simp)
                rw [World.size_alloc] at this
                exact this
              have xB : Jbs ((wq.alloc (.cells #[] 27)).alloc (.cells #[.string j.fo, .string j.gr, .int .i64 j.id, .int .i64 j.iv, .int .i64 j.off, .bool j.pa, .int .i64 j.la] 27)).drew (.slice (some ⟨wq.heap.size + 1, 0, none⟩) 1 1) [j] := by
                have := hone (wq.alloc (.cells #[] 27))
                rw [World.size_alloc] at this
                exact this
              have xC : Jbs ((wq.alloc (.cells #[.string j.fo, .string j.gr, .int .i64 j.id, .int .i64 j.iv, .int .i64 j.off, .bool j.pa, .int .i64 j.la] 27)).alloc (.cells #[] 27)).drew (.slice (some ⟨wq.heap.size, 0, none⟩) 1 1) [j] := Sls.alloc (hone wq) _
              clear hv2 hv3
              go_upto_region 9 with fail
              go_region_held3 (fun W => W.cell? ⟨b, o + k * 7, none⟩ = some (.string j.fo) ∧ W.cell? ⟨b, o + k * 7 + 1, none⟩ = some (.string j.gr) ∧ W.cell? ⟨b, o + k * 7 + 2, none⟩ = some (.int .i64 j.id) ∧ W.cell? ⟨b, o + k * 7 + 3, none⟩ = some (.int .i64 j.iv) ∧ W.cell? ⟨b, o + k * 7 + 4, none⟩ = some (.int .i64 j.off) ∧ W.cell? ⟨b, o + k * 7 + 5, none⟩ = some (.bool j.pa) ∧ W.cell? ⟨b, o + k * 7 + 6, none⟩ = some (.int .i64 j.la)) (first | go_keep | exact hSC _ hB3 | exact hSC _ hB4 | exact hSC _ hB5 | exact hSC _ (hB3.alloc hB3.size _)) (first
                | (refine stepN TJ rfl (.tmp 39) (.tmp 42) rfl wq.heap.size (.slice (some ⟨wq.heap.size, 0, none⟩) 0 0) v2 [] (D.take q) rfl rfl oA (Sls.grow hl1 bA) bA.size L1 ?_; intro v4 w3 ho3 hg3; rw [List.nil_append] at ho3; have hB3 : Below wq.heap.size wq w3 := bA.grown hg3 bA.size (by intro q hq; cases hq; exact Nat.le_refl _))
                | (refine stepN TJ rfl (.tmp 39) (.tmp 42) rfl wq.heap.size (.slice (some ⟨wq.heap.size, 0, none⟩) 0 0) v2 [] (D.take q) rfl rfl oB (Sls.grow hl1 bB) bB.size L1 ?_; intro v4 w3 ho3 hg3; rw [List.nil_append] at ho3; have hB3 : Below wq.heap.size wq w3 := bB.grown hg3 bB.size (by intro q hq; cases hq; exact Nat.le_refl _); have hx3 := Sls.kept xB hg3 (by simp [Value.ownBlock]))
                | (refine stepN TJ rfl (.tmp 39) (.tmp 42) rfl wq.heap.size (.slice (some ⟨wq.heap.size + 1, 0, none⟩) 0 0) v2 [] (D.take q) rfl rfl oC (Sls.grow hl1 bC) bC.size L1 ?_; intro v4 w3 ho3 hg3; rw [List.nil_append] at ho3; have hB3 : Below wq.heap.size wq w3 := bC.grown hg3 bC.size (by intro q hq; cases hq; exact Nat.le_succ _); have hx3 := Sls.kept xC hg3 (by simp [Value.ownBlock]))
                | (refine stepN TJ rfl (.tmp 43) (.tmp 48) rfl wq.heap.size v4 (.slice (some ⟨w3.heap.size, 0, none⟩) 1 1) (D.take q) [j] rfl rfl (OwnS.alloc ho3 _) (hone w3) (hB3.alloc hB3.size _).size L2 ?_; intro v5 w4 ho4 hg4; have hB4 : Below wq.heap.size wq w4 := (hB3.alloc hB3.size _).grown hg4 (hB3.alloc hB3.size _).size (fun q hq => (ho3.lt q hq).1))
                | (refine stepN TJ rfl (.tmp 43) (.tmp 48) rfl wq.heap.size v4 _ (D.take q) [j] rfl rfl ho3 hx3 hB3.size L2 ?_; intro v5 w4 ho4 hg4; have hB4 : Below wq.heap.size wq w4 := hB3.grown hg4 hB3.size (fun q hq => (ho3.lt q hq).1))
                | (refine stepN TJ rfl (.tmp 49) (.tmp 52) rfl wq.heap.size v5 v3 _ (D.drop q) rfl rfl ho4 (Sls.grow hl2 hB4) hB4.size L3 ?_; intro v6 w5 ho5 hg5; have hB5 : Below wq.heap.size wq w5 := hB4.grown hg5 hB4.size (fun q hq => (ho4.lt q hq).1)))
              all_goals
                go_wp2
                refine ⟨⟨k + 1, by omega, by go_num, ?_, hBq.out.trans (hB5.mono hsz9)⟩, by simp [intOf]; omega⟩
                show OwnS TJ w5 w.heap.size v6 (rduL now (l.take (k + 1)))
                rw [hsn2.out]
                exact OwnS.wide ho5 hsz9
          · obtain rfl : q = 0 := by omega
            have d1 : ¬ (0 : Int) < ((0 : Nat) : Int) := by omega
            have hPq : PP = 0 := by rw [← hP.out]; rfl
            go_upto_region 7 with fail
            refine wp_region_bel (by kernel_rfl) (by kernel_rfl) ?_
            repeat (go_big_quiet_step (fail))
            refine wpQuiet_nil ?_
            rintro wq ⟨⟨wz, hqq⟩, rfl⟩
            have hOq : Hid (OwnS TJ wq w.heap.size (.slice oa D.length oc) D) := OwnS.stay hOw.out hqq
            have hBq : Hid (Below w.heap.size w wq) := hBw.out.trans (hqq.mono hBw.out.size)
            clear hqq hP hOw hBw y0 y1 y2 y3 y4 y5 y6
            rw [hPq] at hsn2
            clear hPq
            obtain ⟨v2, hr2, hv2⟩ := jbs_to hOq.out.sls 0 (by omega)
            obtain ⟨v3, hr3, hv3⟩ := jbs_from hOq.out.sls 0 (by omega)
            replace hr2 : ∀ W, (Instr.slice 22 (.slice oa D.length oc) none (some (.int .i64 0)) none).run Try.prog W = .ok v2 W := hr2
            replace hr3 : ∀ W, (Instr.slice 22 (.slice oa D.length oc) (some (.int .i64 0)) none none).run Try.prog W = .ok v3 W := hr3
            obtain ⟨x0, x1, x2, x3, x4, x5, x6⟩ := hcl.out wq hBq.out
            have hsz9 := hBq.out.size
            have hqD : 0 ≤ D.length := by omega
            have L1 : ([] : List Jb).length + (D.take 0).length ≤ 1000000000 := by rw [List.length_take, List.length_nil]; omega
            have L2 : (D.take 0).length + [j].length ≤ 1000000000 := by rw [List.length_take, List.length_singleton]; omega
            have L3 : (D.take 0 ++ [j]).length + (D.drop 0).length ≤ 1000000000 := by rw [List.length_append, List.length_take, List.length_singleton, List.length_drop]; omega
            have hl1 : Jbs wq v2 (D.take 0) := hv2 wq hOq.out.sls
            have hl2 : Jbs wq v3 (D.drop 0) := hv3 wq hOq.out.sls
            have hSC : ∀ W, Below wq.heap.size wq W → _ := fun W hW => hcl.out W (hBq.out.trans (hW.mono hsz9))
            have hone : ∀ W : World, Jbs (W.alloc (.cells #[.string j.fo, .string j.gr, .int .i64 j.id, .int .i64 j.iv, .int .i64 j.off, .bool j.pa, .int .i64 j.la] 27)) (.slice (some ⟨W.heap.size, 0, none⟩) 1 1) [j] := fun W => sls_one W j _ _ rfl
            have bA : Below wq.heap.size wq (wq.alloc (.cells #[] 27)).drew := ((Below.refl _ _).alloc (Nat.le_refl _) _).drew
            have bB : Below wq.heap.size wq ((wq.alloc (.cells #[] 27)).alloc (.cells #[.string j.fo, .string j.gr, .int .i64 j.id, .int .i64 j.iv, .int .i64 j.off, .bool j.pa, .int .i64 j.la] 27)).drew := (((Below.refl _ _).alloc (Nat.le_refl _) _).alloc (by simp) _).drew
            have bC : Below wq.heap.size wq ((wq.alloc (.cells #[.string j.fo, .string j.gr, .int .i64 j.id, .int .i64 j.iv, .int .i64 j.off, .bool j.pa, .int .i64 j.la] 27)).alloc (.cells #[] 27)).drew := (((Below.refl _ _).alloc (Nat.le_refl _) _).alloc (by simp) _).drew
            have oA : OwnS TJ (wq.alloc (.cells #[] 27)).drew wq.heap.size (.slice (some ⟨wq.heap.size, 0, none⟩) 0 0) [] := own_empty (T := TJ) wq wq.heap.size (Nat.le_refl _)
            have oB : OwnS TJ ((wq.alloc (.cells #[] 27)).alloc (.cells #[.string j.fo, .string j.gr, .int .i64 j.id, .int .i64 j.iv, .int .i64 j.off, .bool j.pa, .int .i64 j.la] 27)).drew wq.heap.size (.slice (some ⟨wq.heap.size, 0, none⟩) 0 0) [] := OwnS.alloc (own_empty (T := TJ) wq wq.heap.size (Nat.le_refl _)) _
            have oC : OwnS TJ ((wq.alloc (.cells #[.string j.fo, .string j.gr, .int .i64 j.id, .int .i64 j.iv, .int .i64 j.off, .bool j.pa, .int .i64 j.la] 27)).alloc (.cells #[] 27)).drew wq.heap.size (.slice (some ⟨wq.heap.size + 1, 0, none⟩) 0 0) [] := by
              have := own_empty (T := TJ) (wq.alloc (.cells #[.string j.fo, .string j.gr, .int .i64 j.id, .int .i64 j.iv, .int .i64 j.off, .bool j.pa, .int .i64 j.la] 27)) wq.heap.size (by simp)
              rw [World.size_alloc] at this
              exact this
            have xB : Jbs ((wq.alloc (.cells #[] 27)).alloc (.cells #[.string j.fo, .string j.gr, .int .i64 j.id, .int .i64 j.iv, .int .i64 j.off, .bool j.pa, .int .i64 j.la] 27)).drew (.slice (some ⟨wq.heap.size + 1, 0, none⟩) 1 1) [j] := by
              have := hone (wq.alloc (.cells #[] 27))
              rw [World.size_alloc] at this
              exact this
            have xC : Jbs ((wq.alloc (.cells #[.string j.fo, .string j.gr, .int .i64 j.id, .int .i64 j.iv, .int .i64 j.off, .bool j.pa, .int .i64 j.la] 27)).alloc (.cells #[] 27)).drew (.slice (some ⟨wq.heap.size, 0, none⟩) 1 1) [j] := Sls.alloc (hone wq) _
            clear hv2 hv3
            go_upto_region 9 with fail
            go_region_held3 (fun W => W.cell? ⟨b, o + k * 7, none⟩ = some (.string j.fo) ∧ W.cell? ⟨b, o + k * 7 + 1, none⟩ = some (.string j.gr) ∧ W.cell? ⟨b, o + k * 7 + 2, none⟩ = some (.int .i64 j.id) ∧ W.cell? ⟨b, o + k * 7 + 3, none⟩ = some (.int .i64 j.iv) ∧ W.cell? ⟨b, o + k * 7 + 4, none⟩ = some (.int .i64 j.off) ∧ W.cell? ⟨b, o + k * 7 + 5, none⟩ = some (.bool j.pa) ∧ W.cell? ⟨b, o + k * 7 + 6, none⟩ = some (.int .i64 j.la)) (first | go_keep | exact hSC _ hB3 | exact hSC _ hB4 | exact hSC _ hB5 | exact hSC _ (hB3.alloc hB3.size _)) (first
              | (refine stepN TJ rfl (.tmp 39) (.tmp 42) rfl wq.heap.size (.slice (some ⟨wq.heap.size, 0, none⟩) 0 0) v2 [] (D.take 0) rfl rfl oA (Sls.grow hl1 bA) bA.size L1 ?_; intro v4 w3 ho3 hg3; rw [List.nil_append] at ho3; have hB3 : Below wq.heap.size wq w3 := bA.grown hg3 bA.size (by intro q hq; cases hq; exact Nat.le_refl _))
              | (refine stepN TJ rfl (.tmp 39) (.tmp 42) rfl wq.heap.size (.slice (some ⟨wq.heap.size, 0, none⟩) 0 0) v2 [] (D.take 0) rfl rfl oB (Sls.grow hl1 bB) bB.size L1 ?_; intro v4 w3 ho3 hg3; rw [List.nil_append] at ho3; have hB3 : Below wq.heap.size wq w3 := bB.grown hg3 bB.size (by intro q hq; cases hq; exact Nat.le_refl _); have hx3 := Sls.kept xB hg3 (by simp [Value.ownBlock]))
              | (refine stepN TJ rfl (.tmp 39) (.tmp 42) rfl wq.heap.size (.slice (some ⟨wq.heap.size + 1, 0, none⟩) 0 0) v2 [] (D.take 0) rfl rfl oC (Sls.grow hl1 bC) bC.size L1 ?_; intro v4 w3 ho3 hg3; rw [List.nil_append] at ho3; have hB3 : Below wq.heap.size wq w3 := bC.grown hg3 bC.size (by intro q hq; cases hq; exact Nat.le_succ _); have hx3 := Sls.kept xC hg3 (by simp [Value.ownBlock]))
              | (refine stepN TJ rfl (.tmp 43) (.tmp 48) rfl wq.heap.size v4 (.slice (some ⟨w3.heap.size, 0, none⟩) 1 1) (D.take 0) [j] rfl rfl (OwnS.alloc ho3 _) (hone w3) (hB3.alloc hB3.size _).size L2 ?_; intro v5 w4 ho4 hg4; have hB4 : Below wq.heap.size wq w4 := (hB3.alloc hB3.size _).grown hg4 (hB3.alloc hB3.size _).size (fun q hq => (ho3.lt q hq).1))
              | (refine stepN TJ rfl (.tmp 43) (.tmp 48) rfl wq.heap.size v4 _ (D.take 0) [j] rfl rfl ho3 hx3 hB3.size L2 ?_; intro v5 w4 ho4 hg4; have hB4 : Below wq.heap.size wq w4 := hB3.grown hg4 hB3.size (fun q hq => (ho3.lt q hq).1))
              | (refine stepN TJ rfl (.tmp 49) (.tmp 52) rfl wq.heap.size v5 v3 _ (D.drop 0) rfl rfl ho4 (Sls.grow hl2 hB4) hB4.size L3 ?_; intro v6 w5 ho5 hg5; have hB5 : Below wq.heap.size wq w5 := hB4.grown hg5 hB4.size (fun q hq => (ho4.lt q hq).1)))
            all_goals
              go_wp2
              refine ⟨⟨k + 1, by omega, by go_num, ?_, hBq.out.trans (hB5.mono hsz9)⟩, by simp [intOf]; omega⟩
              show OwnS TJ w5 w.heap.size v6 (rduL now (l.take (k + 1)))
              rw [hsn2.out]
              exact OwnS.wide ho5 hsz9
    · obtain rfl : k = l.length := by omega
      have hki : ¬ (l.length : Int) < (l.length : Int) := by omega
      rw [List.take_of_length_le (Nat.le_refl _)] at hO
      obtain ⟨oa, oc, hou⟩ := hO.out.shape
      subst hou
      go_wp2
      go_ret
      exact ⟨_, rfl, hO.out, hB.out⟩
end Go.Proofs.Ytnbhnnjgnojgbaa
