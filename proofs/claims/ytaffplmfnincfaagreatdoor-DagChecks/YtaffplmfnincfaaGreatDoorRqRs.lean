/- Rq; Rs. -/
import Derived.Test.YtaffplmfnincfaaGreatDoorRnRo
import Derived.Test.YtaffplmfnincfaaGreatDoorRjRp
import Derived.Test.YtaffplmfnincfaaGreatDoorZn
import Derived.Test.YtaffplmfnincfaaGreatDoorPb
import Derived.Laws.AppendOwn
import Derived.Laws.AppendOwnNone
/- DagChecks: append([]api.Node{}, l...); the walk. -/
namespace Go.Proofs.YtaffplmfnincfaaGreatDoor
set_option linter.unusedVariables false
open Go.RowKit
theorem copyG {α : Type} {E : Enc α} (T : RowTy E) {w : World} {ops : Array Oper} {rest : List Oper} {o : Oper} {a : Act} {Q : Exit → Act → World → Prop} (hw : Region.wanted o (yielded ops a.tmps) = true) (s x : Operand)
    (ho : o.op = .call { callee := .builtin .append, args := #[s, x], argTypes := #[T.st, T.st] }) (g base : Nat) (hb : base ≤ g) (hs : a.eval s = .slice (some ⟨g, 0, none⟩) 0 0) (hg : w.heap[g]? = some (.cells #[] T.et (0, 0)))
    (u : Value) (l : List α) (hx : a.eval x = u) (hu : Sls E w u l) (hlen : l.length ≤ 1000)
    (h : ∀ a' c' w', Sls E w' (.slice a' l.length c') l → Below base w w' → wpList Tryz.prog ops Q rest (a.put o.dst (.slice a' l.length c')) w') : wpList Tryz.prog ops Q (o :: rest) a w := by
  have hgl : g < w.heap.size := (Array.getElem?_eq_some_iff.1 hg).1
  have hown : w.ownsRow base T.et E.k (.slice (some ⟨g, 0, none⟩) 0 0) 0 [] := ⟨by simp, .inr ⟨g, 0, #[], rfl, hb, hg, Nat.le_refl _, by unfold maxLen; omega, by simp, by simp⟩⟩
  obtain ⟨i0, hi, hz0, hz1, hz2⟩ := info_parts T.hi
  obtain ⟨ad, c, rfl, hnil, hcell⟩ := hu
  refine wpList_step fun K hK => ?_
  rw [if_pos hw]
  cases ad with
  | none =>
    have hl0 : l = [] := by
      rcases hcell with h0 | ⟨b, o', e, _⟩
      · exact h0
      · cases e
    subst hl0
    have hrun : (Builtin.append_ #[T.st, T.st] o.type #[.slice (some ⟨g, 0, none⟩) 0 0, .slice none 0 c]).run Tryz.prog w = .ok (.slice (some ⟨g, 0, none⟩) 0 0) w := by
      simp [Builtin.append_, run_underlying T.hu, sizeOf, typeInfo, hi, Builtin.lenOf, Builtin.firstCells, storeCells]
    have hx' : a.eval x = .slice none 0 c := hx
    unfold Oper.wp
    simp [execOp, ho, resolve, invoke, builtin, hs, hx', hrun, Result.andThen]
    exact hK _ _ (h _ _ w ⟨some ⟨g, 0, none⟩, 0, rfl, ⟨fun e => (by cases e), Nat.le_refl _⟩, .inl rfl⟩ (Below.refl _ _))
  | some ad =>
    have hm : Sls E w (.slice (some ad) l.length c) l := ⟨some ad, c, rfl, hnil, hcell⟩
    refine wp_append_own w s x T.st ho base T.et i0 T.z E.k T.bytes T.hu hi hz0 hz1 hz2 T.hz E.pos _ 0 [] hs hown ad l.length c (flat E l) hx (flat_len l) ?_ (flat_one l) (by unfold maxLen; omega) (by rw [Nat.zero_add]; have h1 := Nat.mul_le_mul hlen T.hb; omega) (by omega) ?_
    · intro j y hj
      rcases hcell with rfl | ⟨b, o, e, hr⟩
      · simp [flat] at hj
      · cases e
        have hjl : j < l.length * E.k := by
          rw [← flat_len (E := E)]
          rcases Nat.lt_or_ge j (flat E l).length with h | h
          · exact h
          · rw [List.getElem?_eq_none h] at hj; cases hj
        have hd : j / E.k < l.length := (Nat.div_lt_iff_lt_mul E.pos).2 hjl
        have hmd : j % E.k < E.k := Nat.mod_lt _ E.pos
        have hjj : j / E.k * E.k + j % E.k = j := Nat.div_add_mod' j E.k
        have hg := flat_get (E := E) l (j / E.k) (j % E.k) hd hmd
        rw [hjj, hj] at hg
        have := hr (j / E.k) hd (j % E.k) y hg.symm
        rw [ladd_at]
        rw [Nat.add_assoc, hjj] at this
        exact this
    · intro v' w' h1 h2 _
      have ho : OwnS T w' base v' l := by
        unfold OwnS
        simpa using h1
      have hs := ho.sls
      obtain ⟨a', c', rfl, _, _⟩ := id hs
      exact hK _ _ (h a' c' w' hs ((Below.refl base w).grown h2 (by omega) (fun k hk => by cases hk; exact hb)))
end Go.Proofs.YtaffplmfnincfaaGreatDoor
/- DagChecks: the walk. -/
namespace Go.Proofs.YtaffplmfnincfaaGreatDoor
set_option linter.unusedVariables false
open Go.RowKit
theorem chkN_in (c : ByteArray) (l : List Nd) : -1000 ≤ chkN c l ∧ chkN c l ≤ 1000 := by
  have hE : -1000 ≤ ordE l ∧ ordE l ≤ 1000 := by
    unfold ordE
    split
    · omega
    · split <;> omega
  unfold chkN
  split
  · omega
  split
  · omega
  split
  · omega
  split
  · omega
  · split <;> omega
set_option maxRecDepth 100000 in
set_option maxHeartbeats 16000000 in
theorem checks3 (cn : ByteArray) (a : Option Addr) (n c : Nat) (l : List Nd) (W : World) (hG : G W ∧ SignsAt W) (hrf : cn.size ≤ maxLen) (hv : Sls encN W (.slice a n c) l) (hr : ∀ x ∈ l, NdR x) (hl : l.length ≤ 4398046511104) : Calls Tryz.prog 3 #[.string cn, .slice a n c] W fun e w' => e = .returned (.bool true) ∧ Below W.heap.size W w' := by
  have hn : Hid (n = l.length) := hv.len
  have hsm := small7 a n c l W hv hr (by have := hn.out; omega)
  have hlv : Hid (∀ w, Below W.heap.size W w → Calls Tryz.prog 8 #[] w fun e w' => e = .returned (.bool true) ∧ Below w.heap.size w w') := fun w h => live8 w (hG.1.grow h) (hG.2.grow h)
  cases hs : smN l with
  | false =>
    rw [hs] at hsm
    clear hv hr hG hrf
    go_enter Tryz.func3, Tryz.ntmps3
    go_wp2_with (first
      | (go_at_call 7; refine hsm.mono ?_; clear hsm; rintro e w1 ⟨rfl, hb1⟩; have hl1 := hlv.out w1 hb1)
      | (go_at_call 8; refine hl1.mono ?_; rintro e w2 ⟨rfl, hb2⟩))
    go_ret
    exact ⟨rfl, hb1.trans (hb2.mono hb1.size)⟩
  | true =>
    rw [hs] at hsm
    by_cases hcn : (8000 : Int) < (cn.size : Int)
    · clear hv hr hG hrf
      go_enter Tryz.func3, Tryz.ntmps3
      go_wp2_with (first
        | (go_at_call 7; refine hsm.mono ?_; clear hsm; rintro e w1 ⟨rfl, hb1⟩; have hl1 := hlv.out w1 hb1)
        | (go_at_call 8; refine hl1.mono ?_; rintro e w2 ⟨rfl, hb2⟩))
      go_ret
      exact ⟨rfl, hb1.trans (hb2.mono hb1.size)⟩
    · obtain ⟨hl24, hsh⟩ := smN_sh hs
      have hn24 : n ≤ 24 := by have := hn.out; omega
      have hll : l.length ≤ 1000 := by omega
      have hrow : Hid (∀ w, Below W.heap.size W w → Sls encN w (.slice a n c) l) := fun w h => hv.grow h
      have hT : ∀ x ∈ l, TPar x.text := fun x hx => tpar x.text (by have := (hsh x hx).2.2; omega)
      have hI : ∀ x ∈ l, TIs x := fun x hx => tis x (by have := (hsh x hx).1; omega) (by have := (hsh x hx).2.1; omega) (hT x hx)
      have h9 : Hid (∀ w a2 n2 c2, Below W.heap.size W w → Sls encN w (.slice a2 n2 c2) l → Calls Tryz.prog 9 #[.slice a2 n2 c2] w fun e w' => ∃ a' n' c', e = .returned (.tuple #[.slice a' n' c', .int .i64 (ordE l)]) ∧ Hid (Txs w' (.slice a' n' c') (ordL l) ∧ Below w.heap.size w w')) := fun w a2 n2 c2 h h2 => order9 a2 n2 c2 l w (hG.1.grow h) (hG.2.grow h) h2 hll hsh.sh
      have h10 : Hid (∀ w, Below W.heap.size W w → Calls Tryz.prog 10 #[.slice a n c] w fun e w' => ∃ a' n' c', e = .returned (.tuple #[.slice a' n' c', .int .i64 (ordE l)]) ∧ Hid (Txs w' (.slice a' n' c') (ordL l) ∧ Below w.heap.size w w')) := fun w h => rorder10 a n c l w (hG.1.grow h) (hG.2.grow h) (hv.grow h) (by omega) hT
      have h12 : Hid (∀ w k, k < l.length → Below W.heap.size W w → Calls Tryz.prog 12 #[ndV (l.getD k nd0)] w fun e w' => ∃ a n c, e = .returned (.slice a n c) ∧ Hid (Txs w' (.slice a n c) (inpN (l.getD k nd0)) ∧ Below w.heap.size w w')) := fun w k hk h => inputs12 (l.getD k nd0) w (hG.1.grow h) (hG.2.grow h) (hsh.sh.at hk)
      have h13 : Hid (∀ w k, k < l.length → Below W.heap.size W w → Calls Tryz.prog 13 #[ndV (l.getD k nd0)] w fun e w' => ∃ a n c, e = .returned (.slice a n c) ∧ Hid (Txs w' (.slice a n c) (inpN (l.getD k nd0)) ∧ Below w.heap.size w w')) := fun w k hk h => rinputs13 _ w (hG.1.grow h) (hG.2.grow h) (hT _ (lgetD_mem l nd0 k hk))
      have h15 : Hid (∀ w a2 n2 c2, Below W.heap.size W w → Sls encN w (.slice a2 n2 c2) l → Calls Tryz.prog 15 #[.string cn, .slice a2 n2 c2] w fun e w' => e = .returned (.int .i64 (chkN cn l)) ∧ Below w.heap.size w w') := fun w a2 n2 c2 h h2 => check15 cn a2 n2 c2 l w (hG.1.grow h) (hG.2.grow h) h2 hll hsh
      have h16 : Hid (∀ w, Below W.heap.size W w → Calls Tryz.prog 16 #[.string cn, .slice a n c] w fun e w' => e = .returned (.int .i64 (chkN cn l)) ∧ Below w.heap.size w w') := fun w h => rcheck16 cn a n c l w (hG.1.grow h) (hG.2.grow h) (hv.grow h) (by omega) hT hI
      have h17 : Hid (∀ w a2 n2 c2, Below W.heap.size W w → Sls encN w (.slice a2 n2 c2) l → Calls Tryz.prog 17 #[.string cn, .slice a2 n2 c2] w fun e w' => ∃ a' n' c' O, e = .returned (.slice a' n' c') ∧ Hid (RchQ l cn O ∧ Txs w' (.slice a' n' c') O ∧ Below w.heap.size w w')) := fun w a2 n2 c2 h h2 => (needs17 cn a2 n2 c2 l w (hG.1.grow h) (hG.2.grow h) h2 (by omega) hsh.sh).mono fun e w' g => by
        obtain ⟨a', n', c', L, g1, g2⟩ := g
        exact ⟨a', n', c', srtS L, g1, g2.out.1.rq, g2.out.2.1, g2.out.2.2⟩
      have h18 : Hid (∀ w, Below W.heap.size W w → Calls Tryz.prog 18 #[.string cn, .slice a n c] w fun e w' => ∃ a' n' c' O, e = .returned (.slice a' n' c') ∧ Hid (RchQ l cn O ∧ Txs w' (.slice a' n' c') O ∧ Below w.heap.size w w')) := fun w h => rneeds18 cn a n c l w (hG.1.grow h) (hG.2.grow h) (hv.grow h) (by omega) hT
      have htx : Hid (∀ (w' : World) (L : List ByteArray) (a2 a3 : Option Addr) (n2 c2 c3 : Nat), n2 ≤ 1000000 → Txs w' (.slice a2 n2 c2) L → Txs w' (.slice a3 n2 c3) L → Calls Tryz.prog 11 #[.slice a2 n2 c2, .slice a3 n2 c3] w' fun e w'' => e = .returned (.bool true) ∧ Below w'.heap.size w' w'') := fun w' L a2 a3 n2 c2 c3 hh h2 h3 => texts_any w' L a2 a3 n2 c2 c3 (by rw [← h2.len]; exact hh) h2 h3
      have hEb : -1000 ≤ ordE l ∧ ordE l ≤ 1000 := by
        unfold ordE
        split
        · omega
        · split <;> omega
      have hCb := chkN_in cn l
      have e14 : ∀ W', Calls Tryz.prog 14 #[.int .i64 (ordE l)] W' fun e w' => e = .returned (.int .i64 (ordE l)) ∧ w' = W' := fun W' => num14 _ W' hEb.1 hEb.2
      have c14 : ∀ W', Calls Tryz.prog 14 #[.int .i64 (chkN cn l)] W' fun e w' => e = .returned (.int .i64 (chkN cn l)) ∧ w' = W' := fun W' => num14 _ W' hCb.1 hCb.2
      have hOl : Hid ((ordL l).length ≤ 24) := by
        show _ ≤ _
        by_cases h0 : ordE l = 0
        · rw [(ordL_ahead h0).2.1]; exact hl24
        · rw [ordL_err h0]; simp
      have hNl : Hid (∀ O, RchQ l cn O → O.length ≤ 24) := fun O q => by
        have := nodup_le q.1.nodup (fun s hs => ((q.2 s).1 hs).mem)
        rw [List.length_map] at this
        omega
      have hgn : Hid (∀ w : World, (w.alloc (.cells #[] 36)).heap[w.heap.size]? = some (.cells #[] 36 (0, 0))) := fun w => by show (w.heap.push _)[w.heap.size]? = _; simp
      have hll2 : Hid (l.length ≤ 1000) := hll
      clear hv hr hG hs hrf hT hI hl24 hsh hl hEb hCb hll
      generalize ordE l = OE at *
      generalize ordL l = OL at *
      generalize chkN cn l = CH at *
      go_enter Tryz.func3, Tryz.ntmps3
      go_wp2_with (first
        | (go_at_call 7; refine hsm.mono ?_; clear hsm; rintro e w1 ⟨rfl, hb1⟩; have hg1 := hgn.out w1; have hB1 := hb1.trans ((bW0 w1 (.cells #[] 36)).mono hb1.size); have hr1 := hrow.out _ hB1)
        | (at_builtin; refine copyG TN rfl (.tmp 20) (.tmp 21) rfl w1.heap.size W.heap.size hb1.size rfl hg1 _ l rfl hr1 hll2.out ?_; clear hg1; intro a5 c5 w5 hv5 hb5; have hB5 := hB1.trans hb5; have h9a := h9.out w5 a5 l.length c5 hB5 hv5)
        | (go_at_call 9; refine h9a.mono ?_; clear h9a; rintro e w6 ⟨a6, n6, c6, rfl, g6⟩; have hB6 := hB5.trans (g6.out.2.mono hB5.size); have h10a := h10.out w6 hB6)
        | (go_at_call 10; refine h10a.mono ?_; clear h10a; rintro e w7 ⟨a7, n7, c7, rfl, g7⟩))
      have hB7 : Hid (Below W.heap.size W w7) := hB6.trans (g7.out.2.mono hB6.size)
      obtain rfl : n7 = n6 := g7.out.1.len.trans g6.out.1.len.symm
      have hn6 : n7 ≤ 24 := by rw [g7.out.1.len]; exact hOl.out
      have hx6 : Hid (Txs w7 (.slice a6 n7 c6) OL) := g6.out.1.grow g7.out.2
      have hx7 : Hid (Txs w7 (.slice a7 n7 c7) OL) := g7.out.1
      clear g6 g7 hB1 hB5 hB6 hb1 hb5 hv5 hr1
      go_loopw [9] (fun i wr => ∃ k : Nat, k ≤ n ∧ i = .int .i64 k ∧ Hid (Below w7.heap.size w7 wr)) (fun i _ => n - (intOf i).toNat)
      case atStart => exact ⟨0, Nat.zero_le _, rfl, Below.refl _ _⟩
      case round =>
        obtain ⟨k, hk, rfl, hb⟩ := hrel
        obtain ⟨wo, rfl⟩ : ∃ wo, wo = wr := ⟨_, rfl⟩
        have hB : Hid (Below W.heap.size W wo) := hB7.out.trans (hb.out.mono hB7.out.size)
        by_cases hkn : k < n
        · have hki : (k : Int) < (n : Int) := by omega
          have hkl : k < l.length := by have := hn.out; omega
          have hnd : Hid (∀ w', Below wo.heap.size wo w' → Sls encN w' (.slice a n c) l) := fun w' h => hrow.out w' (hB.out.trans (h.mono hB.out.size))
          obtain ⟨q, o, rfl, c0, c1, c2, c3, c4, c5, c6', c7', c8, c9, c10⟩ := nd_at (hnd.out wo (Below.refl _ _)) k hkl
          have hi12 : Hid (∀ w', Below wo.heap.size wo w' → Calls Tryz.prog 12 #[ndV (l.getD k nd0)] w' fun e w'' => ∃ a n c, e = .returned (.slice a n c) ∧ Hid (Txs w'' (.slice a n c) (inpN (l.getD k nd0)) ∧ Below w'.heap.size w' w'')) := fun w' h => h12.out w' k hkl (hB.out.trans (h.mono hB.out.size))
          have hi13 : Hid (∀ w', Below wo.heap.size wo w' → Calls Tryz.prog 13 #[ndV (l.getD k nd0)] w' fun e w'' => ∃ a n c, e = .returned (.slice a n c) ∧ Hid (Txs w'' (.slice a n c) (inpN (l.getD k nd0)) ∧ Below w'.heap.size w' w'')) := fun w' h => h13.out w' k hkl (hB.out.trans (h.mono hB.out.size))
          have hd0 : Hid (Below wo.heap.size wo wo.drew) := (Below.refl _ _).drew
          have hcs : Hid (∀ w', Below wo.heap.size wo w' → w'.cell? ⟨q, o + k * 11, none⟩ = some (.string (l.getD k nd0).ref) ∧ w'.cell? ⟨q, o + k * 11 + 1, none⟩ = some (.int .i64 (l.getD k nd0).kind) ∧ w'.cell? ⟨q, o + k * 11 + 2, none⟩ = some (.string (l.getD k nd0).source) ∧ w'.cell? ⟨q, o + k * 11 + 3, none⟩ = some (.string (l.getD k nd0).input) ∧ w'.cell? ⟨q, o + k * 11 + 4, none⟩ = some (.string (l.getD k nd0).how) ∧ w'.cell? ⟨q, o + k * 11 + 5, none⟩ = some (.bool (l.getD k nd0).strict) ∧ w'.cell? ⟨q, o + k * 11 + 6, none⟩ = some (.int .i64 (l.getD k nd0).low.kind) ∧ w'.cell? ⟨q, o + k * 11 + 7, none⟩ = some (.int .i64 (l.getD k nd0).low.n) ∧ w'.cell? ⟨q, o + k * 11 + 8, none⟩ = some (.int .i64 (l.getD k nd0).high.kind) ∧ w'.cell? ⟨q, o + k * 11 + 9, none⟩ = some (.int .i64 (l.getD k nd0).high.n) ∧ w'.cell? ⟨q, o + k * 11 + 10, none⟩ = some (.string (l.getD k nd0).text)) := fun w' h => by
            obtain ⟨q', o', hqe, d⟩ := nd_at (hnd.out w' h) k hkl
            cases hqe
            exact d
          obtain ⟨x, hxe⟩ : ∃ x, Hid (x = l.getD k nd0) := ⟨_, rfl⟩
          rw [← hxe.out] at c0 c1 c2 c3 c4 c5 c6' c7' c8 c9 c10 hi12 hi13 hcs
          have hil : Hid ((inpN x).length ≤ 1024) := inpN_len x
          go_wp2
          go_region_with (first
            | (go_at_call 12; first
              | (refine (hi12.out wo.drew hd0.out).mono ?_; rintro e w12 ⟨a12, n12, c12, rfl, g12⟩; have hq12 : Hid (Below wo.heap.size wo w12) := hd0.out.trans (g12.out.2.mono hd0.out.size); have hT12 : Hid (Txs w12 (.slice a12 n12 c12) (inpN x)) := g12.out.1; clear c0 c1 c2 c3 c4 c5 c6' c7' c8 c9 c10; obtain ⟨c0, c1, c2, c3, c4, c5, c6', c7', c8, c9, c10⟩ := hcs.out w12 hq12.out)
              | (refine (hi12.out w13 hq13.out).mono ?_; rintro e w12 ⟨a12, n12, c12, rfl, g12⟩; have hq12 : Hid (Below wo.heap.size wo w12) := hq13.out.trans (g12.out.2.mono hq13.out.size); have hT12 : Hid (Txs w12 (.slice a12 n12 c12) (inpN x)) := g12.out.1; have hT13b : Hid (Txs w12 (.slice a13 n13 c13) (inpN x)) := hT13.out.grow g12.out.2; obtain rfl : n13 = n12 := hT13b.out.len.trans hT12.out.len.symm; have h11 := htx.out w12 (inpN x) a12 a13 n13 c12 c13 (by have := hT12.out.len; have := hil.out; omega) hT12.out hT13b.out))
            | (go_at_call 13; first
              | (refine (hi13.out wo.drew hd0.out).mono ?_; rintro e w13 ⟨a13, n13, c13, rfl, g13⟩; have hq13 : Hid (Below wo.heap.size wo w13) := hd0.out.trans (g13.out.2.mono hd0.out.size); have hT13 : Hid (Txs w13 (.slice a13 n13 c13) (inpN x)) := g13.out.1; clear c0 c1 c2 c3 c4 c5 c6' c7' c8 c9 c10; obtain ⟨c0, c1, c2, c3, c4, c5, c6', c7', c8, c9, c10⟩ := hcs.out w13 hq13.out)
              | (refine (hi13.out w12 hq12.out).mono ?_; rintro e w13 ⟨a13, n13, c13, rfl, g13⟩; have hq13 : Hid (Below wo.heap.size wo w13) := hq12.out.trans (g13.out.2.mono hq12.out.size); have hT13 : Hid (Txs w13 (.slice a13 n13 c13) (inpN x)) := g13.out.1; have hT12b : Hid (Txs w13 (.slice a12 n12 c12) (inpN x)) := hT12.out.grow g13.out.2; obtain rfl : n13 = n12 := hT13.out.len.trans hT12b.out.len.symm; have h11 := htx.out w13 (inpN x) a12 a13 n13 c12 c13 (by have := hT13.out.len; have := hil.out; omega) hT12b.out hT13.out))
            | (go_at_call 11; refine h11.mono ?_; clear h11; rintro e w11 ⟨rfl, hb11⟩; have hq11 : Below wo.heap.size wo w11 := (by first | exact hq13.out.trans (hb11.mono hq13.out.size) | exact hq12.out.trans (hb11.mono hq12.out.size))))
          all_goals go_wp2
          all_goals go_roundw
          all_goals first
            | (show ∃ k : Nat, _; exact ⟨k + 1, by omega, by go_num, hb.out.trans (hq11.mono hb.out.size)⟩)
            | (simp [intOf]; omega)
        · have hki : ¬ (k : Int) < (n : Int) := by omega
          have hx6b : Hid (Txs wo (.slice a6 n7 c6) OL) := hx6.out.grow hb.out
          have hx7b : Hid (Txs wo (.slice a7 n7 c7) OL) := hx7.out.grow hb.out
          have hg2 := hgn.out wo
          have hB2 := hB.out.trans ((bW0 wo (.cells #[] 36)).mono hB.out.size)
          have hr2 := hrow.out _ hB2
          clear hx6 hx7 h12 h13
          go_wp2_with (first
            | (at_builtin; refine copyG TN rfl (.tmp 50) (.tmp 51) rfl wo.heap.size wo.heap.size (Nat.le_refl _) rfl hg2 _ l rfl hr2 hll2.out ?_; clear hg2; intro a5 c5 w5 hv5 hb5; have hC := (bW0 wo (.cells #[] 36)).trans hb5; have h15a := h15.out w5 a5 l.length c5 (hB.out.trans (hC.mono hB.out.size)) hv5)
            | (go_at_call 15; refine h15a.mono ?_; clear h15a; rintro e w6 ⟨rfl, hb6⟩; replace hC := hC.trans (hb6.mono hC.size); have h16a := h16.out w6 (hB.out.trans (hC.mono hB.out.size)))
            | (go_at_call 14; refine (c14 _).mono ?_; rintro e wx ⟨rfl, hwx⟩; subst wx)
            | (go_at_call 14; refine (e14 _).mono ?_; rintro e wx ⟨rfl, hwx⟩; subst wx; have hg3 := hgn.out w9; have hr3 := hrow.out _ (hB.out.trans (((hC.trans ((bW0 w9 (.cells #[] 36)).mono hC.size))).mono hB.out.size)))
            | (go_at_call 16; refine h16a.mono ?_; clear h16a; rintro e w8 ⟨rfl, hb8⟩; replace hC := hC.trans (hb8.mono hC.size); have h11a := htx.out w8 OL a6 a7 n7 c6 c7 (by omega) (hx6b.out.grow hC) (hx7b.out.grow hC))
            | (go_at_call 11; refine h11a.mono ?_; clear h11a; rintro e w9 ⟨rfl, hb9⟩; replace hC := hC.trans (hb9.mono hC.size))
            | (at_builtin; refine copyG TN rfl (.tmp 72) (.tmp 73) rfl w9.heap.size w9.heap.size (Nat.le_refl _) rfl hg3 _ l rfl hr3 hll2.out ?_; intro a15 c15 w15 hv15 hb15; replace hC := hC.trans (((bW0 w9 (.cells #[] 36)).trans hb15).mono hC.size); have h17a := h17.out w15 a15 l.length c15 (hB.out.trans (hC.mono hB.out.size)) hv15)
            | (go_at_call 17; refine h17a.mono ?_; clear h17a; rintro e w17 ⟨a17, n17, c17, O, rfl, g17⟩; replace hC := hC.trans (g17.out.2.2.mono hC.size); have h18a := h18.out w17 (hB.out.trans (hC.mono hB.out.size)))
            | (go_at_call 18; refine h18a.mono ?_; clear h18a; rintro e w18 ⟨a18, n18, c18, P, rfl, g18⟩; replace hC := hC.trans (g18.out.2.2.mono hC.size); obtain rfl : P = O := g18.out.1.one g17.out.1; obtain rfl : n18 = n17 := g18.out.2.1.len.trans g17.out.2.1.len.symm; have h11b := htx.out w18 P a17 a18 n18 c17 c18 (by have h1 := g18.out.2.1.len; have h2 := hNl.out P g18.out.1; omega) (g17.out.2.1.grow g18.out.2.2) g18.out.2.1)
            | (go_at_call 11; refine h11b.mono ?_; clear h11b; rintro e w19 ⟨rfl, hb19⟩; replace hC := hC.trans (hb19.mono hC.size); have h8a := hlv.out w19 (hB.out.trans (hC.mono hB.out.size)))
            | (go_at_call 8; refine h8a.mono ?_; clear h8a; rintro e w20 ⟨rfl, hb20⟩; replace hC := hC.trans (hb20.mono hC.size)))
          go_ret
          exact ⟨rfl, hB.out.trans (hC.mono hB.out.size)⟩
end Go.Proofs.YtaffplmfnincfaaGreatDoor
