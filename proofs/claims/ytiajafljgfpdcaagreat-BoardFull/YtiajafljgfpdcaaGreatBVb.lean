/- slices.AppendSeq and slices.Collect of the map's values. -/
import Derived.Test.YtiajafljgfpdcaaGreatBVa
namespace Go.Proofs.YtiajafljgfpdcaaGreat
set_option linter.unusedVariables false
open Go.RowKit Go.Maps Go.Sort
section
variable {α : Type} {E : Enc α}
theorem appRIn (T : RowTy E) {F : Fence} {n : Nat} {w : World} {ops : Array Oper} {rest : List Oper} {o : Oper} {a : Act} {Q : Exit → Act → World → Prop} (hgd : o.guard = none) (s x : Operand)
    (ho : o.op = .call { callee := .builtin .append, args := #[s, x], argTypes := #[T.st, T.st] })
    (base : Nat) (v : Value) (ad : Addr) (c : Nat) (l m : List α) (hs : a.eval s = v) (hx : a.eval x = .slice (some ad) m.length c)
    (hown : OwnS T w base v l) (hm : Sls E w (.slice (some ad) m.length c) m) (hbase : base ≤ w.heap.size) (hlen : l.length + m.length ≤ 1000000000)
    (h : ∀ v' w', OwnS T w' base v' (l ++ m) → w.grownBy w' v.ownBlock → wpListIn F n Tryz.prog ops Q rest (a.put o.dst v') w') :
    wpListIn F n Tryz.prog ops Q (o :: rest) a w := by
  obtain ⟨i0, hi, hz0, hz1, hz2⟩ := info_parts T.hi
  obtain ⟨ad', c', e', hnil, hcell⟩ := hm
  cases e'
  have hbb : (l.length + m.length) * T.bytes ≤ 140737488355328 := by
    have h1 := Nat.mul_le_mul hlen T.hb
    omega
  refine wpListIn_append_own _ hgd s x T.st ho base T.et i0 T.z E.k T.bytes T.hu hi hz0 hz1 hz2 T.hz E.pos v l.length (flat E l) hs hown ad m.length c (flat E m) hx (flat_len m) ?_ (flat_one m) (by unfold maxLen; omega) hbb hbase ?_
  · intro j y hj
    rcases hcell with rfl | ⟨b, o, e, hr⟩
    · simp [flat] at hj
    · cases e
      have hjl : j < m.length * E.k := by
        rw [← flat_len (E := E)]
        rcases Nat.lt_or_ge j (flat E m).length with h | h
        · exact h
        · rw [List.getElem?_eq_none h] at hj; cases hj
      have hd : j / E.k < m.length := (Nat.div_lt_iff_lt_mul E.pos).2 hjl
      have hmd : j % E.k < E.k := Nat.mod_lt _ E.pos
      have hjj : j / E.k * E.k + j % E.k = j := Nat.div_add_mod' j E.k
      have hg := flat_get (E := E) m (j / E.k) (j % E.k) hd hmd
      rw [hjj, hj] at hg
      have := hr (j / E.k) hd (j % E.k) y hg.symm
      rw [add_at, ← this]
      exact congrArg (fun t => w.cell? ⟨_, t, none⟩) (by omega)
  · intro v' w' h1 h2 _
    refine h v' w' ?_ h2
    unfold OwnS
    rw [flat_app]
    simpa using h1
end
/-- What stands between two rounds of AppendSeq: the box holds a row of the call's own. -/
structure ApAt (w0 : World) (xs : List Sd) (W : World) : Prop where
  box : ∃ v, W.heap[w0.heap.size]? = some (.cells #[v] 125 (0, 0)) ∧ OwnS TD W w0.heap.size v xs
  below : Below w0.heap.size w0 W
theorem own_kept_row {W W' : World} {base : Nat} {v : Value} {xs : List Sd} {row : Option Nat} (h : OwnS TD W base v xs) (hg : W.grownBy W' row) (hne : ∀ r, row = some r → v.ownBlock ≠ some r) : OwnS TD W' base v xs := by
  refine World.ownsRow.kept h hg ?_
  cases row with
  | none =>
    cases hv : v.ownBlock with
    | none => exact .inl rfl
    | some k => exact .inr (by simp)
  | some r => exact .inr (hne r rfl)
theorem own_block {W : World} {base : Nat} {v : Value} {xs : List Sd} (h : OwnS TD W base v xs) {k : Nat} (hk : v.ownBlock = some k) : ∃ cur, W.heap[k]? = some (.cells cur 120 (0, 0)) := by
  rcases h.2 with ⟨rfl, _⟩ | ⟨g, cap, cur, rfl, _, hgb, _⟩
  · cases hk
  · have : g = k := by simpa [Value.ownBlock] using hk
    subst this
    exact ⟨cur, hgb⟩
theorem ap_own (w0 : World) (B : Nat) (hB : w0.heap.size + 1 ≤ B) : OwnFrom B (ApAt w0) := fun s W W' row h hg hr => by
  obtain ⟨v, hv, ho⟩ := h.box
  have hlt := (Array.getElem?_eq_some_iff.1 hv).1
  refine ⟨⟨v, (hg.block _ hlt fun e => ?_).trans hv, own_kept_row ho hg fun r e e2 => ?_⟩, h.below.grown hg h.below.size fun k e => ?_⟩
  · have := (hr _ e.symm).1; omega
  · obtain ⟨cur, hc⟩ := own_block ho e2
    obtain ⟨_, o, ho2, hno⟩ := hr r e
    rw [hc] at ho2
    cases ho2
    cases hno
  · have := (hr k e).1; omega
/-- A round's variable in its block. -/
def AxAt (sv : Value) (w0 : World) (B : Nat) (x : Sd) (a : Act) (W : World) : Prop :=
  ∃ g, B ≤ g ∧ SAt W g x ∧ a = { tmps := #[.slice none 0 0, sv, .pointer (some ⟨w0.heap.size, 0, none⟩), undef, .slice none 0 0, .pointer (some ⟨g, 0, none⟩), sv, encD x, undef, undef, undef, undef, undef], defers := [] }
theorem ax_own (sv : Value) (w0 : World) (B : Nat) (x : Sd) (a : Act) : OwnFrom B (fun (_ : Unit) W => AxAt sv w0 B x a W) := fun _ W W' row h hg hr => by
  obtain ⟨g, hB, hs, e⟩ := h
  refine ⟨g, hB, hs.keep (hg.block g hs.lt fun e2 => ?_), e⟩
  obtain ⟨_, o, ho, hno⟩ := hr g e2.symm
  unfold SAt at hs
  rw [hs] at ho
  cases ho
  cases hno
set_option maxRecDepth 100000 in
set_option maxHeartbeats 4000000 in
theorem appendSeq_in (g : Nat) (lb : Array Value) (eg : ∀ args w, (callFunc g args).run Tryz.prog w = .ok (.enter g args) w) (M : List Sd) (hM : M.length ≤ 1000000) (w : World)
    (hseq : SeqStopsK Fence.wide (6 - 1) Tryz.prog g lb (fun x : Sd => #[encD x]) KeepsWalks (fun xs => xs.Perm M) (fun _ => True) M.length w) :
    CallsIn Fence.wide 6 Tryz.prog 126 #[.slice none 0 0, .func (.func g) #[] lb] w fun e w' => ∃ v xs, e = .returned v ∧ xs.Perm M ∧ OwnS TD w' w.heap.size v xs ∧ Below w.heap.size w w' := by
  refine callsIn_of_wp_marks Tryz.func126 rfl trivial ?_ rfl
  simp only [Tryz.ntmps126, List.size_toArray, List.length_cons, List.length_nil, Nat.reduceAdd, Nat.reduceSub, Array.replicate_succ, Array.replicate_zero, List.push_toArray, List.append_toArray, List.nil_append, List.cons_append]
  gi_wp2
  have hz : (w.alloc (.cells #[.slice none 0 0] 125)).heap.size = w.heap.size + 1 := by simp
  have hb0 : Below w.heap.size w (w.alloc (.cells #[.slice none 0 0] 125)) := (Below.refl _ w).alloc (Nat.le_refl _) _
  refine wpIn_rangeFunc_ownH (F := Fence.wide) (n := 6) (w := w.alloc (.cells #[.slice none 0 0] 125)) rfl (by omega) (gf := g) (lb := lb) rfl trivial eg hseq (fun h k => h.trans k) (fun W l o o' hl h h1 h2 => KeepsWalks.putObj _ h h2)
    hb0 (fun _ => rfl) (ApAt w) (fun _ _ _ => False) (ap_own w _ (by omega)) (fun c s W W' row h _ _ => h) ⟨⟨_, heap_new _ _, OwnS.nil _ _⟩, hb0⟩ (AxAt (.func (.func g) #[] lb) w (w.heap.size + 1)) (fun x a' => by rw [hz]; exact ax_own _ _ _ _ _) ?assign ?body ?done ?stop
  case assign =>
    intro l pre x W K hI hK
    have hI' : ApAt w pre (W.alloc (sO x)) := ap_own w _ (Nat.le_refl _) _ W _ none hI (World.grownBy_alloc W _ none) (fun r e => by cases e)
    have hk := hK { tmps := #[.slice none 0 0, .func (.func g) #[] lb, .pointer (some ⟨w.heap.size, 0, none⟩), undef, .slice none 0 0, .pointer (some ⟨W.heap.size, 0, none⟩), .func (.func g) #[] lb, encD x, undef, undef, undef, undef, undef], defers := [] } (W.alloc (sO x))
      ((KeepsOthers.alloc W _).from _) (KeepsWalks.alloc W _) hI' ⟨W.heap.size, ?_, sNew W x, rfl⟩
    · unfold encD at *
      gi_wp2_with gi_round_op_a
      exact hk
    · obtain ⟨v, hv, _⟩ := hI.box
      have := (Array.getElem?_eq_some_iff.1 hv).1
      omega
  case body =>
    rintro l pre x a' W hl ⟨r, hrl⟩ hI ⟨gx, hgx, hx, rfl⟩ hlt
    obtain ⟨v, hv, ho⟩ := hI.box
    have hbel := hI.below
    have hsz := hbel.size
    have hlt0 : w.heap.size < W.heap.size := (Array.getElem?_eq_some_iff.1 hv).1
    have c0 : W.cell? ⟨w.heap.size, 0, none⟩ = some v := by simp [World.cell?, hv]
    have c1 : W.frozen? ⟨w.heap.size, 0, none⟩ = false := by simp [World.frozen?, hv]
    obtain ⟨s0, s1, s2, s3, s4, s5, s6, s7, s8, s9⟩ := hx.cells
    obtain ⟨va, vc, rfl⟩ := ho.shape
    have hne : (Value.slice va pre.length vc).ownBlock ≠ some w.heap.size := fun e => by
      obtain ⟨cur, hc⟩ := own_block ho e
      rw [hv] at hc
      cases hc
    unfold encD at *
    gi_wp2_with (first
      | (gi_at_builtin; refine appRIn TD rfl _ _ rfl w.heap.size _ _ _ pre [x] rfl rfl (OwnS.alloc ho _) (sls_one W x _ 120 rfl) (by simp; omega) (by simp; omega) ?_; intro v' w3 hown' hg3; obtain ⟨va', vc', rfl⟩ := hown'.shape; have hv3 : w3.heap[w.heap.size]? = some (.cells #[.slice va pre.length vc] 125 (0, 0)) := (hg3.block _ (by simp; omega) (fun e => hne e.symm)).trans ((heap_old W _ (by omega)).trans hv); have c2 : w3.cell? ⟨w.heap.size, 0, none⟩ = some (.slice va pre.length vc) := (by simp [World.cell?, hv3]); have c3 : w3.frozen? ⟨w.heap.size, 0, none⟩ = false := (by simp [World.frozen?, hv3]); go_frame)
      | gi_round_op_a)
    have hA : W.grownBy w3 (Value.slice va pre.length vc).ownBlock := by
      have h0 := World.grownBy_alloc W (sO x) (Value.slice va pre.length vc).ownBlock
      exact ⟨hg3.os.trans h0.os, hg3.tape.trans h0.tape, hg3.output.trans h0.output, Nat.le_trans h0.size hg3.size, fun k hk hn => (hg3.block k (Nat.lt_of_lt_of_le hk h0.size) hn).trans (h0.block k hk hn)⟩
    have hwalk : ∀ (j : Nat) (o : Obj), (Value.slice va pre.length vc).ownBlock = some j → W.heap[j]? = some o → o.isWalk = false ∧ o.isCells = true := fun j o hj ho' => by
      obtain ⟨cur, hc⟩ := own_block ho hj
      rw [hc] at ho'
      cases ho'
      exact ⟨rfl, rfl⟩
    have hKW : KeepsWalks W w3 := KeepsWalks.of_grownBy hA (fun j o hj ho' => (hwalk j o hj ho').1)
    have hKF : KeepsFrom (w.alloc (.cells #[.slice none 0 0] 125)).heap.size W w3 := ⟨hA.size, fun k o _ hk hno => (hA.block k (Array.getElem?_eq_some_iff.1 hk).1 (fun e => by
      have := (hwalk k o e.symm hk).2
      rw [this] at hno; cases hno)).trans hk⟩
    have hB3 : RowKit.Below w.heap.size w w3 := hbel.grown hA hsz (fun k e => by
      rcases ho.2 with ⟨e2, _⟩ | ⟨g', cap, cur, e2, hb', _⟩
      · rw [e2] at e; cases e
      · rw [e2] at e
        have : g' = k := by simpa [Value.ownBlock] using e
        omega)
    have hl1 : (pre ++ [x]).length = pre.length + 1 := by simp
    rw [hl1] at hown'
    refine ⟨hKF.trans ((KeepsOthers.setCell _ _ _).from _), hKW.trans (KeepsWalks.setCell _ _ _), ⟨_, S.block_setCell (i := 0) hv3, ?_⟩, hB3.setCell (p := ⟨w.heap.size, 0, none⟩) (Nat.le_refl _) _⟩
    refine own_kept_row hown' (grownBy_setCell0_a w3 w.heap.size _) fun r e e2 => ?_
    cases e
    obtain ⟨cur, hc⟩ := own_block hown' e2
    rw [hv3] at hc
    cases hc
  case done =>
    rintro D xs W hD hp hI hK
    obtain ⟨v, hv, ho⟩ := hI.box
    have c0 : W.cell? ⟨w.heap.size, 0, none⟩ = some v := by simp [World.cell?, hv]
    gi_wp2
    refine ⟨by simp, .inl ⟨_, _, rfl, run_takeDeferred hK, ?_⟩⟩
    refine ⟨_, results_tmp rfl _ _ _, v, xs, rfl, hp, own_kept_row ho (grownBy_putObj_a W D _) (fun r e e2 => ?_), hI.below.grown (grownBy_putObj_a W D _) hI.below.size (fun k e => ?_)⟩
    · cases e
      obtain ⟨cur, hc⟩ := own_block ho e2
      rw [hK] at hc
      cases hc
    · cases e
      omega
  case stop =>
    intro D c pre W hD _ hf _
    exact hf.elim
theorem collect_in (g : Nat) (lb : Array Value) (eg : ∀ args w, (callFunc g args).run Tryz.prog w = .ok (.enter g args) w) (M : List Sd) (hM : M.length ≤ 1000000) (w : World)
    (hseq : SeqStopsK Fence.wide (6 - 1) Tryz.prog g lb (fun x : Sd => #[encD x]) KeepsWalks (fun xs => xs.Perm M) (fun _ => True) M.length w) :
    Calls Tryz.prog 101 #[.func (.func g) #[] lb] w fun e w' => ∃ v xs, e = .returned v ∧ xs.Perm M ∧ OwnS TD w' w.heap.size v xs ∧ RowKit.Below w.heap.size w w' := by
  have hA : ∀ W, RowKit.Below w.heap.size w W → Calls Tryz.prog 126 #[.slice none 0 0, .func (.func g) #[] lb] W fun e w' => ∃ v xs, e = .returned v ∧ xs.Perm M ∧ OwnS TD w' W.heap.size v xs ∧ RowKit.Below W.heap.size W w' := fun W hW =>
    callsIn_wide.1 (appendSeq_in g lb eg M hM W (fun l J Jx W' hW' => hseq l J Jx W' (hW.trans (hW'.mono hW.size))))
  have h0 := hA w (Below.refl _ _)
  go_enter Tryz.func101, Tryz.ntmps101
  go_wp2_with (go_at_call 126; refine h0.mono ?_; rintro e w1 ⟨v, xs, rfl, hp, ho, hb⟩)
  go_ret
  exact ⟨v, xs, rfl, hp, ho, hb⟩
end Go.Proofs.YtiajafljgfpdcaaGreat
