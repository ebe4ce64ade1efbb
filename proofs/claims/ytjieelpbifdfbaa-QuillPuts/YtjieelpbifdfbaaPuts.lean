/-
  Proved here: 'klaxonlaw01.QuillPuts' (P1.1, P1.2), called with any bytes, numbers, ints and texts, in any memory, returns true, and its arguments read afterwards as they read before: what is written lies behind what is there, as the document writes it, and the mark is the document's. No condition beyond the row's own (each slice and string within the reach that every row states).
-/
import Derived.Test.YtjieelpbifdfbaaRows
import Derived.WalkKit
import Derived.ProofKit
import Derived.OpenShut
import Derived.ShutString
import Derived.ChangeOld
import Derived.Below
import Derived.SizedLaws
import Derived.SliceStrings
import Derived.Test.YtjieelpbifdfbaaLive
import Derived.Test.YtjieelpbifdfbaaArgs
import Derived.Test.YtjieelpbifdfbaaStrs
import Derived.Test.YtjieelpbifdfbaaRound
import Derived.Test.YtjieelpbifdfbaaRef
import Derived.Test.YtjieelpbifdfbaaCrc
import Derived.Deep.RegionHeld3
import Derived.Deep.Cut
namespace Go.Proofs.Ytjieelpbifdfbaa.quillPuts
open Go.ChangeShapes Go.WideShapes Go.ChangeAt Go.RowKit
open Go.ChangeMaps (open_string shut_string)
set_option linter.unusedVariables false
set_option linter.unusedSimpArgs false

theorem own : ownKnob Try.prog.godebug = none := by kernel_rfl
theorem laidOut : laidOutB Try.prog = true := by kernel_rfl

/-! ### The walk -/
theorem Own.notNil {w : World} {base : Nat} {v : Value} {xs : List Int} (h : Own w base v xs) (hn : v ≠ .slice none 0 0) : ∃ g, OwnB w g v xs ∧ base ≤ g := by
  have h' := h
  obtain ⟨_, h2⟩ := h
  rcases h2 with ⟨e, _⟩ | ⟨g, cap, cur, rfl, hb, _⟩
  · exact absurd e hn
  · exact ⟨g, OwnB.of h' rfl, hb⟩
theorem OwnB.below {w w' : World} {g B : Nat} {v : Value} {xs : List Int} (h : OwnB w g v xs) (hb : Below B w w') (hg : g < B) : OwnB w' g v xs := by
  refine ⟨?_, h.2⟩
  obtain ⟨h1, h2⟩ := h.1
  refine ⟨h1, ?_⟩
  rcases h2 with h2 | ⟨g', cap, cur, rfl, hb', hh, r⟩
  · exact .inl h2
  · have : g' = g := by simpa [Value.ownBlock] using h.2
    subst this
    exact .inr ⟨g', cap, cur, rfl, hb', (hb.block g' hg).trans hh, r⟩
theorem np {Q : Exit → Act → World → Prop} (d : Option Tmp) (v : Value) : ∀ c a w, NoPanic Q (.panic c) (a.put d v) w → NoPanic Q (.panic c) a w := fun _ _ _ h => False.elim h
section
variable {P : Program} {ops : Array Oper} {Q : Exit → Act → World → Prop} {md : Region.Mode} {S : World → Prop}
/-- An operation of a drawn region that yields in every world that meets S. -/
theorem takeW {i : Nat} {oi : Oper} {v : Value} {fuel : Nat} {listed : Array Bool} {a : Act} {w : World} (d : Option Tmp) (hi : ops[i]? = some oi) (hd : oi.dst = d)
    (hs : Region.noSelect ops = true) (hf : Region.free md ops listed i = true) (hr : (Region.ready md ops listed).contains i = true)
    (hw : Region.wanted oi (yielded ops a.tmps) = true) (hS : S w) (hy : ∀ w, S w → (execOp a.eval oi).run P w = .ok (.value v) w)
    (h : wpAnyH P md ops (NoPanic Q) S fuel (listed.setIfInBounds i true) (a.put d v) w) : wpAnyH P md ops (NoPanic Q) S (fuel + 1) listed a w := by
  subst hd
  exact wpAnyH_take hi hs hf hr (np _ _) (Or.inl ⟨hw, hy⟩) hS h
/-- An operation of a drawn region whose guard shuts it out. -/
theorem skipW {i : Nat} {oi : Oper} {fuel : Nat} {listed : Array Bool} {a : Act} {w : World} (d : Option Tmp) (hi : ops[i]? = some oi) (hd : oi.dst = d)
    (hs : Region.noSelect ops = true) (hf : Region.free md ops listed i = true) (hr : (Region.ready md ops listed).contains i = true)
    (hw : Region.wanted oi (yielded ops a.tmps) = false) (hS : S w)
    (h : wpAnyH P md ops (NoPanic Q) S fuel (listed.setIfInBounds i true) (a.put d undef) w) : wpAnyH P md ops (NoPanic Q) S (fuel + 1) listed a w := by
  subst hd
  exact wpAnyH_take hi hs hf hr (np _ _) (Or.inr ⟨hw, rfl⟩) hS h
end
theorem heap1d (w : World) (a : Obj) : (w.alloc a).drew.heap[w.heap.size]? = some a := heap_alloc_new w a
theorem heapOld (w : World) (a b : Obj) : ((w.alloc a).alloc b).heap[w.heap.size]? = some a := by
  show ((w.heap.push a).push b)[w.heap.size]? = _
  simp only [Array.getElem?_push, Array.size_push]; rw [if_neg (by omega), if_pos trivial]
theorem heapNew2 (w : World) (a b : Obj) : ((w.alloc a).alloc b).heap[w.heap.size + 1]? = some b := by
  show ((w.heap.push a).push b)[w.heap.size + 1]? = _
  simp only [Array.getElem?_push, Array.size_push]; rw [if_pos trivial]
theorem ownG (W : World) (e : Nat) (h : W.heap[e]? = some (.cells #[] 5 (0, 0))) : Own W e (.slice (some ⟨e, 0, none⟩) 0 0) [] :=
  ⟨by simp, .inr ⟨e, 0, #[], rfl, Nat.le_refl _, h, Nat.le_refl _, by unfold maxLen; omega, rfl, rfl⟩⟩
theorem shapeB {w : World} {g : Nat} {v : Value} {xs : List Int} (h : OwnB w g v xs) : ∃ c, v = .slice (some ⟨g, 0, none⟩) xs.length c := by
  obtain ⟨_, h2⟩ := h.1
  rcases h2 with ⟨rfl, _⟩ | ⟨g', cap, cur, rfl, _⟩
  · have := h.2; simp [Value.ownBlock] at this
  · have : g' = g := by simpa [Value.ownBlock] using h.2
    subst this
    exact ⟨cap, rfl⟩
/-- append(s, x...) in a drawn region, x a slice of bytes. -/
theorem appXwp {w : World} {o : Oper} {a : Act} {K : Act → World → Prop} {Q : Exit → Act → World → Prop} (s x : Operand)
    (ho : o.op = .call { callee := .builtin .append, args := #[s, x], argTypes := #[22, 22] }) (d : Option Tmp) (hd : o.dst = d)
    (base : Nat) (v u : Value) (xs bs : List Int) (hs : a.eval s = v) (hx : a.eval x = u)
    (hown : Own w base v xs) (hb : Bts w u bs) (hbase : base ≤ w.heap.size) (hlen : xs.length + bs.length ≤ 140737488355328)
    (h : ∀ v' w', Own w' base v' (xs ++ bs) → Below base w w' → K (a.put d v') w') : Oper.wp Try.prog o a w K Q := by
  subst hd
  obtain ⟨i0, hi, hz0, hz1, hz2⟩ := info_parts info5
  obtain ⟨ad, c, rfl, hnil, hcell⟩ := hb
  cases ad with
  | none =>
    have hbs : bs = [] := by
      rcases hcell with hcell | ⟨_, _, e, _⟩
      · exact hcell
      · cases e
    subst hbs
    obtain rfl := hnil.1 rfl
    have hrun := run_append_owned_none (P := Try.prog) (w := w) base 22 o.type 5 i0 1 Try.underlying22 hi v xs.length (xs.map (Value.int .u8)) hown
    have hx' : a.eval x = .slice none 0 0 := hx
    unfold Oper.wp
    simp [execOp, ho, resolve, invoke, builtin, hs, hx', hrun, Result.andThen]
    exact h v w (by simpa using hown) (Below.refl _ _)
  | some ad =>
    refine wp_append_own w s x 22 ho base 5 i0 (.int .u8 0) 1 1 Try.underlying22 hi hz0 hz1 hz2 rfl (by decide) v xs.length (xs.map (Value.int .u8)) hs hown ad bs.length c (bs.map (Value.int .u8)) hx (by simp) ?_ (ints_oneCell _ _) (by unfold maxLen; omega) (by omega) hbase ?_
    · intro j y hj
      rcases hcell with rfl | ⟨b, o, e, hr⟩
      · simp at hj
      · cases e
        rw [List.getElem?_map] at hj
        have hjl : j < bs.length := by
          rcases Nat.lt_or_ge j bs.length with h | h
          · exact h
          · rw [List.getElem?_eq_none h] at hj; cases hj
        have := hr j (Nat.zero_le _) hjl
        rw [List.getElem?_eq_getElem hjl] at hj
        simp only [Option.map_some, Option.some.injEq] at hj
        subst hj
        rw [add_at, this]; simp [hjl]
    · intro v' w' h1 h2 h3
      refine h v' w' ?_ ?_
      · unfold Own; simpa using h1
      · exact (Below.refl base w).grown h2 hbase (fun k hk => (hown.lt k hk).1)
set_option maxRecDepth 100000 in
set_option maxHeartbeats 1000000 in
theorem walk_out (nb nl nm : Nat) (ss : List ByteArray) (a a0 a1 a2 : Option Addr) (c c0 c1 c2 : Nat) (w : World) (hT : nb ≤ 20000 → nl ≤ 60 → nm ≤ 60 → Calls Try.prog 9 #[.slice a2 ss.length c2] w fun e w' => e = .returned (.bool false) ∧ w' = w) :
    Calls Try.prog 3 #[.slice a nb c, .slice a0 nl c0, .slice a1 nm c1, .slice a2 ss.length c2] w fun e w' => e = .returned (.bool true) ∧ Below w.heap.size w w' := by
  by_cases hb : 20000 < nb
  · go_enter Try.func3, Try.ntmps3
    go_wp2_with (go_at_call 10; refine (live_any _).mono ?_; rintro e w1 ⟨rfl, hb1⟩)
    go_ret
    exact ⟨rfl, hb1⟩
  · by_cases h0 : 60 < nl
    · go_enter Try.func3, Try.ntmps3
      go_wp2_with (go_at_call 10; refine (live_any _).mono ?_; rintro e w1 ⟨rfl, hb1⟩)
      go_ret
      exact ⟨rfl, hb1⟩
    · by_cases h1 : 60 < nm
      · go_enter Try.func3, Try.ntmps3
        go_wp2_with (go_at_call 10; refine (live_any _).mono ?_; rintro e w1 ⟨rfl, hb1⟩)
        go_ret
        exact ⟨rfl, hb1⟩
      · have hT' := hT (by omega) (by omega) (by omega)
        clear hT
        go_enter Try.func3, Try.ntmps3
        go_wp2_with (first | (go_at_call 9; refine hT'.mono ?_; rintro e w1 ⟨rfl, hw1⟩; subst w1) | (go_at_call 10; refine (live_any _).mono ?_; rintro e w1 ⟨rfl, hb1⟩))
        go_ret
        exact ⟨rfl, hb1⟩
set_option maxRecDepth 100000 in
set_option maxHeartbeats 40000000 in
theorem walk_in (bs : List Int) (ls : List Nat) (ms : List Int) (ss : List ByteArray) (a a0 a1 a2 : Option Addr) (c c0 c1 c2 : Nat) (w : World)
    (hb : Bts w (.slice a bs.length c) bs) (hby : IsBytes bs) (hb0 : bs.length ≤ 20000)
    (hl : ∀ n ∈ ls, n < 2 ^ 64) (hm : ∀ n ∈ ms, -9223372036854775808 ≤ n ∧ n ≤ 9223372036854775807) (hl60 : ls.length ≤ 60) (hm60 : ms.length ≤ 60) (hs60 : ss.length ≤ 60) (hst : total ss ≤ 20000)
    (R0 : ls = [] ∨ ∃ b o, a0 = some ⟨b, o, none⟩ ∧ Rest w 0 ls.length b o (fun t => .int .u64 (ls.getD t 0 : Nat)) ∧ b < w.heap.size)
    (R1 : ms = [] ∨ ∃ b o, a1 = some ⟨b, o, none⟩ ∧ Rest w 0 ms.length b o (fun t => .int .i64 (ms.getD t 0)) ∧ b < w.heap.size)
    (R2 : ss = [] ∨ ∃ b o, a2 = some ⟨b, o, none⟩ ∧ Rest w 0 ss.length b o (fun t => .string (ss.getD t ByteArray.empty)) ∧ b < w.heap.size)
    (hT : Calls Try.prog 9 #[.slice a2 ss.length c2] w fun e w' => e = .returned (.bool true) ∧ w' = w) :
    Calls Try.prog 3 #[.slice a bs.length c, .slice a0 ls.length c0, .slice a1 ms.length c1, .slice a2 ss.length c2] w fun e w' => e = .returned (.bool true) ∧ Below w.heap.size w w' := by
  have q0 := cat_len enc 10 ls fun x hx => enc_len10 x (hl x hx)
  have q1 := cat_len encS 11 ms fun x hx => encS_len11 x (hm x hx).1 (hm x hx).2
  have q2 := catT_len ss (by omega)
  have hbA := hb.alloc (.cells #[] 5)
  go_enter Try.func3, Try.ntmps3
  go_wp2_with (first | (go_at_call 9; refine hT.mono ?_; rintro e w1 ⟨rfl, hw1⟩; subst w1) | (at_builtin; refine appX rfl (.tmp 34) (.tmp 35) rfl w.heap.size _ _ [] bs rfl rfl (own_empty w) hbA (by simp) (by simp; omega) ?_; intro v1 w1 ho1 hb1 hi1; obtain ⟨g1, hO1, hg1⟩ := Own.notNil ho1 (fun e => by have h := (hi1.1 e).1; injection h with h1; cases h1); rw [List.nil_append] at hO1; have hB1 : Below w.heap.size w w1 := ((Below.refl _ w).alloc (Nat.le_refl _) _).trans hb1; have hl1 := hO1.lt; have hbB := (hb.grow hB1).alloc (.cells #[] 5); clear ho1 hb1 hi1 hbA) | (at_builtin; refine appX rfl (.tmp 37) (.tmp 38) rfl w1.heap.size _ _ [] bs rfl rfl (own_empty w1) hbB (by simp) (by simp; omega) ?_; intro v2 w2 ho2 hb2 hi2; obtain ⟨g2, hO2, hg2⟩ := Own.notNil ho2 (fun e => by have h := (hi2.1 e).1; injection h with h1; cases h1); rw [List.nil_append] at hO2; have hb2' : Below w1.heap.size w1 w2 := ((Below.refl _ w1).alloc (Nat.le_refl _) _).trans hb2; have hB2 : Below w.heap.size w w2 := hB1.trans (hb2'.mono hB1.size); have hl2 := hO2.lt; have hO1b := OwnB.below hO1 hb2' hl1; have hbC := (hb.grow hB2).alloc (.cells #[] 5); clear ho2 hb2 hi2 hbB) | (at_builtin; refine appX rfl (.tmp 40) (.tmp 41) rfl w2.heap.size _ _ [] bs rfl rfl (own_empty w2) hbC (by simp) (by simp; omega) ?_; intro v3 w3 ho3 hb3 hi3; obtain ⟨g3, hO3, hg3⟩ := Own.notNil ho3 (fun e => by have h := (hi3.1 e).1; injection h with h1; cases h1); rw [List.nil_append] at hO3; have hb3' : Below w2.heap.size w2 w3 := ((Below.refl _ w2).alloc (Nat.le_refl _) _).trans hb3; have hB3 : Below w.heap.size w w3 := hB2.trans (hb3'.mono hB2.size); have hl3 := hO3.lt; have hO2c := OwnB.below hO2 hb3' hl2; have hO1c := OwnB.below hO1b hb3' (by omega); clear ho3 hb3 hi3 hbC hb3' hb2' hO1 hO1b hO2))
  have hne : g1 ≠ g2 ∧ g1 ≠ g3 ∧ g2 ≠ g3 := by omega
  have hlo : w.heap.size ≤ g1 ∧ w.heap.size ≤ g2 ∧ w.heap.size ≤ g3 := by have := hB1.size; have := hB2.size; omega
  clear hT hB1 hB2 hg1 hg2 hg3 hl1 hl2 hl3
  have HLO2 : w.heap.size ≤ g2 := hlo.2.1
  have HLO3 : w.heap.size ≤ g3 := hlo.2.2
  have HNE23 : g2 ≠ g3 := hne.2.2
  go_loopw [9, 12] (fun u i wr => ∃ (k g : Nat), k ≤ ls.length ∧ i = .int .i64 k ∧ OwnB wr g u (bs ++ cat enc (ls.take k)) ∧ OwnB wr g2 v2 bs ∧ OwnB wr g3 v3 bs ∧ Below w.heap.size w wr ∧ w.heap.size ≤ g ∧ g ≠ g2 ∧ g ≠ g3) (fun _ i _ => ls.length - (intOf i).toNat)
  case atStart => exact ⟨0, g1, Nat.zero_le _, rfl, by simpa [cat] using hO1c, hO2c, hO3, hB3, by omega, by omega, by omega⟩
  case round =>
    obtain ⟨k, g, hk, rfl, hox, hoy, hoz, hbr, hlg, hn2, hn3⟩ := hrel
    clear hO1c hO2c hO3 hB3
    have hy2 := hoy.lt
    have hz2 := hoz.lt
    by_cases hlt : k < ls.length
    · obtain ⟨b, o, rfl, hr, hbz⟩ : ∃ b o, a0 = some ⟨b, o, none⟩ ∧ Rest w 0 ls.length b o (fun t => .int .u64 (ls.getD t 0 : Nat)) ∧ b < w.heap.size := by
        rcases R0 with h | h
        · subst h; simp at hlt
        · exact h
      have hc : wr.cell? ⟨b, o + k, none⟩ = some (.int .u64 (ls.getD k 0 : Nat)) := (hbr.cell (p := ⟨b, o + k, none⟩) hbz).trans (hr k (Nat.zero_le _) hlt)
      have hn := hl _ (getD_mem ls 0 k hlt)
      have hcl := cat_len enc 10 (ls.take k) fun x hx => enc_len10 x (hl x (mem_take hx))
      have htl : (ls.take k).length ≤ ls.length := by simp; omega
      have hcall := refUint_any (ls.getD k 0) g _ (bs ++ cat enc (ls.take k)) wr hn hox (by simp only [List.length_append]; omega)
      have HA : Hid (bs ++ cat enc (ls.take k) ++ enc (ls.getD k 0) = bs ++ cat enc (ls.take (k + 1))) := by
        show _ = _
        rw [cat_take enc ls 0 k hlt, List.append_assoc]
      rw [HA.out] at hcall
      generalize ls.getD k 0 = n at hc hcall
      clear HA hn hcl htl hr R0 R1 R2 hl hm
      go_wp2_with (go_at_call 11; refine hcall.mono ?_; rintro e w4 ⟨g', v4, rfl, ho4, hG4, hn4⟩)
      go_roundw
      case rel => exact ⟨k + 1, g', by omega, by go_num, ho4, hoy.kept hG4 (by omega), hoz.kept hG4 (by omega), hbr.grown hG4 hbr.size (by intro q hq; cases hq; omega), (by have := hbr.size; omega), by omega, by omega⟩
      case measure => simp [intOf]; omega
    · obtain rfl : k = ls.length := by omega
      rw [List.take_of_length_le (Nat.le_refl _)] at hox
      clear hne hlo
      obtain ⟨wa, rfl⟩ : ∃ wa : World, wa = wr := ⟨_, rfl⟩
      obtain ⟨X, hX⟩ : ∃ X, X = bs ++ cat enc ls := ⟨_, rfl⟩
      rw [← hX] at hox
      have hXl : X.length ≤ 30000 := by rw [hX, List.length_append]; omega
      replace hX : Hid (_ = _) := hX
      go_wp2
      go_loopw [10, 13] (fun u i wr => ∃ (k q : Nat), k ≤ ms.length ∧ i = .int .i64 k ∧ OwnB wr q u (bs ++ cat encS (ms.take k)) ∧ OwnB wr g u9 X ∧ OwnB wr g3 v3 bs ∧ Below w.heap.size w wr ∧ w.heap.size ≤ q ∧ q ≠ g ∧ q ≠ g3) (fun _ i _ => ms.length - (intOf i).toNat)
      case atStart => exact ⟨0, g2, Nat.zero_le _, rfl, by simpa [cat] using hoy, hox, hoz, hbr, HLO2, by omega, HNE23⟩
      case round =>
        obtain ⟨k, q, hk, rfl, hoy, hox, hoz, hbr, hlq, hnq, hnq3⟩ := hrel
        have hy2 := hox.lt
        have hz2 := hoz.lt
        by_cases hlt : k < ms.length
        · obtain ⟨b, o, rfl, hr, hbz⟩ : ∃ b o, a1 = some ⟨b, o, none⟩ ∧ Rest w 0 ms.length b o (fun t => .int .i64 (ms.getD t 0)) ∧ b < w.heap.size := by
            rcases R1 with h | h
            · subst h; simp at hlt
            · exact h
          have hc : wr.cell? ⟨b, o + k, none⟩ = some (.int .i64 (ms.getD k 0)) := (hbr.cell (p := ⟨b, o + k, none⟩) hbz).trans (hr k (Nat.zero_le _) hlt)
          have hn := hm _ (getD_mem ms 0 k hlt)
          have hcl := cat_len encS 11 (ms.take k) fun x hx => encS_len11 x (hm x (mem_take hx)).1 (hm x (mem_take hx)).2
          have htl : (ms.take k).length ≤ ms.length := by simp; omega
          have hcall := refInt_any (ms.getD k 0) q _ (bs ++ cat encS (ms.take k)) wr hn.1 hn.2 hoy (by simp only [List.length_append]; omega)
          have HA : Hid (bs ++ cat encS (ms.take k) ++ encS (ms.getD k 0) = bs ++ cat encS (ms.take (k + 1))) := by
            show _ = _
            rw [cat_take encS ms 0 k hlt, List.append_assoc]
          rw [HA.out] at hcall
          generalize ms.getD k 0 = n at hc hcall
          clear HA hn hcl htl hr R0 R1 R2 hl hm
          go_wp2_with (go_at_call 12; refine hcall.mono ?_; rintro e w4 ⟨g', v4, rfl, ho4, hG4, hn4⟩)
          go_roundw
          case rel => exact ⟨k + 1, g', by omega, by go_num, ho4, hox.kept hG4 (by omega), hoz.kept hG4 (by omega), hbr.grown hG4 hbr.size (by intro r hr; cases hr; omega), (by have := hbr.size; omega), by omega, by omega⟩
          case measure => simp [intOf]; omega
        · obtain rfl : k = ms.length := by omega
          rw [List.take_of_length_le (Nat.le_refl _)] at hoy
          obtain ⟨wb, rfl⟩ : ∃ wb : World, wb = wr := ⟨_, rfl⟩
          obtain ⟨Y, hY⟩ : ∃ Y, Y = bs ++ cat encS ms := ⟨_, rfl⟩
          rw [← hY] at hoy
          replace hY : Hid (_ = _) := hY
          go_wp2
          go_loopw [11, 14] (fun u i wr => ∃ (k r : Nat), k ≤ ss.length ∧ i = .int .i64 k ∧ OwnB wr r u (bs ++ cat encT (ss.take k)) ∧ OwnB wr g u9 X ∧ OwnB wr q u10 Y ∧ Below w.heap.size w wr ∧ w.heap.size ≤ r ∧ r ≠ g ∧ r ≠ q) (fun _ i _ => ss.length - (intOf i).toNat)
          case atStart => exact ⟨0, g3, Nat.zero_le _, rfl, by simpa [cat] using hoz, hox, hoy, hbr, HLO3, by omega, by omega⟩
          case round =>
            obtain ⟨k, r, hk, rfl, hoz, hox, hoy, hbr, hlr, hnr, hnr2⟩ := hrel
            have hx2 := hox.lt
            have hy2 := hoy.lt
            by_cases hlt : k < ss.length
            · obtain ⟨b, o, rfl, hr, hbz⟩ : ∃ b o, a2 = some ⟨b, o, none⟩ ∧ Rest w 0 ss.length b o (fun t => .string (ss.getD t ByteArray.empty)) ∧ b < w.heap.size := by
                rcases R2 with h | h
                · subst h; simp at hlt
                · exact h
              have hc : wr.cell? ⟨b, o + k, none⟩ = some (.string (ss.getD k ByteArray.empty)) := (hbr.cell (p := ⟨b, o + k, none⟩) hbz).trans (hr k (Nat.zero_le _) hlt)
              have hn := total_le ss _ (getD_mem ss ByteArray.empty k hlt)
              have htt := total_take ss k
              have hcl := catT_len (ss.take k) (by omega)
              have htl : (ss.take k).length ≤ ss.length := by simp; omega
              have hcall := refText_any (ss.getD k ByteArray.empty) r _ (bs ++ cat encT (ss.take k)) wr (by omega) hoz (by simp only [List.length_append]; omega)
              have HA : Hid (bs ++ cat encT (ss.take k) ++ encT (ss.getD k ByteArray.empty) = bs ++ cat encT (ss.take (k + 1))) := by
                show _ = _
                rw [cat_take encT ss ByteArray.empty k hlt, List.append_assoc]
              rw [HA.out] at hcall
              generalize ss.getD k ByteArray.empty = n at hc hcall
              clear HA hn htt hcl htl hr R0 R1 R2 hl hm
              go_wp2_with (go_at_call 13; refine hcall.mono ?_; rintro e w4 ⟨g', v4, rfl, ho4, hG4, hn4⟩)
              go_roundw
              case rel => exact ⟨k + 1, g', by omega, by go_num, ho4, hox.kept hG4 (by omega), hoy.kept hG4 (by omega), hbr.grown hG4 hbr.size (by intro t ht; cases ht; omega), (by have := hbr.size; omega), by omega, by omega⟩
              case measure => simp [intOf]; omega
            · obtain rfl : k = ss.length := by omega
              rw [List.take_of_length_le (Nat.le_refl _)] at hoz
              obtain ⟨Z, hZ⟩ : ∃ Z, Z = bs ++ cat encT ss := ⟨_, rfl⟩
              rw [← hZ] at hoz
              replace hZ : Hid (_ = _) := hZ
              go_wp2_with fail
              obtain ⟨cx, hcx⟩ : ∃ cx, u9 = .slice (some ⟨g, 0, none⟩) X.length cx := shapeB hox
              subst hcx
              have hbX1 : IsBytes X := by rw [hX.out]; exact isBytes_append hby (isBytes_cat enc ls fun x _ => isBytes_enc x)
              have hbX : IsBytes (bs ++ X) := isBytes_append hby hbX1
              have hYl : Y.length ≤ 30000 := by rw [hY.out, List.length_append]; omega
              have hZl : Z.length ≤ 50000 := by rw [hZ.out, List.length_append]; omega
              obtain ⟨N0, hN0⟩ : ∃ N0, N0 = wr.heap.size := ⟨_, rfl⟩
              have hgN : g < N0 ∧ q < N0 ∧ r < N0 := by rw [hN0]; exact ⟨hox.lt, hoy.lt, hoz.lt⟩
              have hwN : w.heap.size ≤ N0 := by rw [hN0]; exact hbr.size
              obtain ⟨S, hS⟩ : ∃ S : World → Prop, S = fun w' => OwnB w' g (.slice (some ⟨g, 0, none⟩) X.length cx) X ∧ OwnB w' q u10 Y ∧ OwnB w' r u11 Z ∧ Below w.heap.size w w' ∧ N0 ≤ w'.heap.size := ⟨_, rfl⟩
              have S0 : S wr.drew := by rw [hS]; exact ⟨hox, hoy, hoz, hbr.drew, by rw [hN0]; exact Nat.le_refl _⟩
              have hInv : ∀ W W', Below N0 W W' → S W → S W' := by
                rw [hS]
                rintro W W' h ⟨h1, h2, h3, h4, h5⟩
                exact ⟨OwnB.below h1 h hgN.1, OwnB.below h2 h hgN.2.1, OwnB.below h3 h hgN.2.2, h4.trans (h.mono hwN), Nat.le_trans h5 h.size⟩
              have SN : ∀ W, S W → N0 ≤ W.heap.size := by rw [hS]; exact fun W h => h.2.2.2.2
              have SL : ∀ W, S W → Below w.heap.size w W := by rw [hS]; exact fun W h => h.2.2.2.1
              have SB : ∀ W, S W → Bts W (.slice a bs.length c) bs := fun W h => hb.grow (SL W h)
              have SXb : ∀ W, S W → Bts W (.slice (some ⟨g, 0, none⟩) X.length cx) X := by rw [hS]; exact fun W h => h.1.1.bts
              obtain ⟨sX, hsX⟩ : ∃ sX, strOfNums X = sX := ⟨_, rfl⟩
              obtain ⟨sY, hsY⟩ : ∃ sY, strOfNums Y = sY := ⟨_, rfl⟩
              obtain ⟨sZ, hsZ⟩ : ∃ sZ, strOfNums Z = sZ := ⟨_, rfl⟩
              have SX : ∀ W, S W → (convert 22 9 (.slice (some ⟨g, 0, none⟩) X.length cx)).run Try.prog W = .ok (.string sX) W := by rw [hS]; exact fun W h => by rw [← hsX]; exact conv_str h.1.1.bts
              have SY : ∀ W, S W → (convert 22 9 u10).run Try.prog W = .ok (.string sY) W := by rw [hS]; exact fun W h => by rw [← hsY]; exact conv_str h.2.1.1.bts
              have SZ : ∀ W, S W → (convert 22 9 u11).run Try.prog W = .ok (.string sZ) W := by rw [hS]; exact fun W h => by rw [← hsZ]; exact conv_str h.2.2.1.1.bts
              have kA : ∀ (W : World) (o : Obj), S W → S (W.alloc o) := fun W o h => hInv _ _ ((Below.refl _ _).alloc (SN W h) _) h
              have kAd : ∀ (W : World) (o : Obj), S W.drew → S (W.alloc o).drew := fun W o h => kA W.drew o h
              have hcarry : ∀ {α : Type} {l : List α} {f : Nat → Value} {ad : Option Addr} {W : World} {B : Nat}, (l = [] ∨ ∃ b o, ad = some ⟨b, o, none⟩ ∧ Rest w 0 l.length b o f ∧ b < w.heap.size) → Below w.heap.size w W → N0 ≤ B → l = [] ∨ ∃ b o, ad = some ⟨b, o, none⟩ ∧ Rest W 0 l.length b o f ∧ (b < B ∨ l.length ≤ 1) := by
                intro α l f ad W B h hW hB
                rcases h with h | ⟨b, o, e, hr, hb⟩
                · exact .inl h
                · exact .inr ⟨b, o, e, fun t h0 ht => (hW.cell (p := ⟨b, o + t, none⟩) hb).trans (hr t h0 ht), .inl (by omega)⟩
              have hN14 : ∀ W v B, S W → Own W B v bs → N0 ≤ B → B ≤ W.heap.size → Calls Try.prog 14 #[v, .slice a0 ls.length c0] W fun e w' => ∃ v', e = .returned v' ∧ Own w' B v' X ∧ Below B W w' := by
                intro W v B h ho hB hW
                rw [hX.out]
                exact number_any B v bs ls a0 c0 W hl ho hW (by omega) (hcarry R0 (SL W h) hB)
              have hN15 : ∀ W v B, S W → Own W B v bs → N0 ≤ B → B ≤ W.heap.size → Calls Try.prog 15 #[v, .slice a1 ms.length c1] W fun e w' => ∃ v', e = .returned v' ∧ Own w' B v' Y ∧ Below B W w' := by
                intro W v B h ho hB hW
                rw [hY.out]
                exact signed_any B v bs ms a1 c1 W hm ho hW (by omega) (hcarry R1 (SL W h) hB)
              have hN16 : ∀ W v B, S W → Own W B v bs → N0 ≤ B → B ≤ W.heap.size → Calls Try.prog 16 #[v, .slice a2 ss.length c2] W fun e w' => ∃ v', e = .returned v' ∧ Own w' B v' Z ∧ Below B W w' := by
                intro W v B h ho hB hW
                rw [hZ.out]
                exact text_any B v bs ss a2 c2 W (by omega) ho hW (by omega) (hcarry R2 (SL W h) hB)
              obtain ⟨M, hMM⟩ : ∃ M, mfold 4294967295 (bs ++ X) = M := ⟨_, rfl⟩
              have hmark : ∀ (W : World) (p : Nat), W.heap[p]? = some (.cells #[.slice a bs.length c, .slice (some ⟨g, 0, none⟩) X.length cx] 22 (0, 0)) → S W → Calls Try.prog 17 #[.slice (some ⟨p, 0, none⟩) 2 2] W fun e w' => e = .returned (.int .u32 M) ∧ w' = W := by
                intro W p hp h
                exact mark_at (w := W) [.slice a bs.length c, .slice (some ⟨g, 0, none⟩) X.length cx] [bs, X] rfl (by intro y hy; simp at hy; rcases hy with rfl | rfl; exact hby; exact hbX1) (by intro y hy; simp at hy; rcases hy with rfl | rfl <;> omega) (by simp) (by intro t ht; match t, ht with | 0, _ => exact SB W h | 1, _ => exact SXb W h) 2 rfl M (by simpa using hMM) W p hp (Below.refl _ _)
              clear hS hox hoy hoz hbr R0 R1 R2 hl hm hb hby hcarry hX hY hZ q0 q1 q2 hbX1
              refine wp_region_noPanic ?_
              refine wp_region_held_drew (S := S) (by kernel_rfl) S0 (fun hHeld => ?_)
              have LO1 : N0 ≤ wr.heap.size := by omega
              refine takeW (i := 1) (v := ?_) (some 80) rfl (by kernel_rfl) (by kernel_rfl) (by kernel_rfl) (by kernel_rfl) (by kernel_rfl) (by assumption) ?_ ?_
              rotate_left
              · intro w hSw; go_simp; try with_reducible rfl
              try simp only [Act.put, List.setIfInBounds_toArray, List.set_cons_zero, List.set_cons_succ]
              refine takeW (i := 3) (v := ?_) (some 82) rfl (by kernel_rfl) (by kernel_rfl) (by kernel_rfl) (by kernel_rfl) (by kernel_rfl) (by assumption) ?_ ?_
              rotate_left
              · intro w hSw; go_simp; try with_reducible rfl
              try simp only [Act.put, List.setIfInBounds_toArray, List.set_cons_zero, List.set_cons_succ]
              refine takeW (i := 6) (v := ?_) (some 85) rfl (by kernel_rfl) (by kernel_rfl) (by kernel_rfl) (by kernel_rfl) (by kernel_rfl) (by assumption) ?_ ?_
              rotate_left
              · intro w hSw; go_simp; try with_reducible rfl
              try simp only [Act.put, List.setIfInBounds_toArray, List.set_cons_zero, List.set_cons_succ]
              refine takeW (i := 7) (v := ?_) (some 86) rfl (by kernel_rfl) (by kernel_rfl) (by kernel_rfl) (by kernel_rfl) (by kernel_rfl) (by assumption) ?_ ?_
              rotate_left
              · intro w hSw; have hx := SX w hSw; go_simp; try with_reducible rfl
              try simp only [Act.put, List.setIfInBounds_toArray, List.set_cons_zero, List.set_cons_succ]
              refine wpAnyH_ready (rs := [0]) (by kernel_rfl) (by simp) ?_
              refine AllReadyH.cons rfl (fun K hK => ?_) AllReadyH.nil
              go_simp
              refine hK.out _ _ (by first | exact kA _ _ (by assumption) | exact kAd _ _ (by assumption)) (fun hHeld => ?_)
              clear hK K
              try simp only [Act.put, List.setIfInBounds_toArray, List.set_cons_zero, List.set_cons_succ]
              refine wpAnyH_ready (rs := [2]) (by kernel_rfl) (by simp) ?_
              refine AllReadyH.cons rfl (fun K hK => ?_) AllReadyH.nil
              rw [if_pos (by kernel_rfl)]
              refine appXwp (.tmp 79) (.tmp 80) rfl (some 81) (by kernel_rfl) wr.heap.size _ _ [] bs rfl rfl (ownG _ wr.heap.size (by first | exact heap_alloc_new _ _ | exact heap1d _ _ | exact heapOld _ _ _ | exact heapNew2 _ _ _)) (SB _ (by assumption)) (by simp; try omega) (by simp only [List.length_nil]; omega) ?_
              intro v30 w30 ho30 hb30
              rw [List.nil_append] at ho30
              refine hK.out _ _ (hInv _ _ (hb30.mono LO1) (by assumption)) (fun hHeld => ?_)
              clear hK K
              try simp only [Act.put, List.setIfInBounds_toArray, List.set_cons_zero, List.set_cons_succ]
              refine wpAnyH_ready (rs := [4]) (by kernel_rfl) (by simp) ?_
              refine AllReadyH.cons rfl (fun K hK => ?_) AllReadyH.nil
              go_simp
              refine (hN14 _ _ wr.heap.size (by assumption) ho30 LO1 (by have := hb30.size; simp at this; omega)).mono ?_
              rintro e w31 ⟨v31, rfl, ho31, hb31⟩
              have hcv31 := conv_str ho31.bts
              rw [hsX] at hcv31
              refine hK.out _ _ (hInv _ _ (hb31.mono LO1) (by assumption)) (fun hHeld => ?_)
              clear hK K
              try simp only [Act.put, List.setIfInBounds_toArray, List.set_cons_zero, List.set_cons_succ]
              refine wpAnyH_ready (rs := [5]) (by kernel_rfl) (by simp) ?_
              refine AllReadyH.cons rfl (fun K hK => ?_) AllReadyH.nil
              go_simp
              refine hK.out _ _ (by assumption) (fun hHeld => ?_)
              clear hK K
              try simp only [Act.put, List.setIfInBounds_toArray, List.set_cons_zero, List.set_cons_succ]
              refine takeW (i := 8) (v := ?_) (some 87) rfl (by kernel_rfl) (by kernel_rfl) (by kernel_rfl) (by kernel_rfl) (by kernel_rfl) (by assumption) ?_ ?_
              rotate_left
              · intro w hSw; go_simp; try with_reducible rfl
              try simp only [Act.put, List.setIfInBounds_toArray, List.set_cons_zero, List.set_cons_succ]
              refine takeW (i := 9) (v := ?_) (some 88) rfl (by kernel_rfl) (by kernel_rfl) (by kernel_rfl) (by kernel_rfl) (by kernel_rfl) (by assumption) ?_ ?_
              rotate_left
              · intro w hSw; go_simp; try with_reducible rfl
              try simp only [Act.put, List.setIfInBounds_toArray, List.set_cons_zero, List.set_cons_succ]
              have LO2 : N0 ≤ w31.heap.size := SN _ hHeld
              refine takeW (i := 11) (v := ?_) (some 90) rfl (by kernel_rfl) (by kernel_rfl) (by kernel_rfl) (by kernel_rfl) (by kernel_rfl) (by assumption) ?_ ?_
              rotate_left
              · intro w hSw; go_simp; try with_reducible rfl
              try simp only [Act.put, List.setIfInBounds_toArray, List.set_cons_zero, List.set_cons_succ]
              refine takeW (i := 13) (v := ?_) (some 92) rfl (by kernel_rfl) (by kernel_rfl) (by kernel_rfl) (by kernel_rfl) (by kernel_rfl) (by assumption) ?_ ?_
              rotate_left
              · intro w hSw; go_simp; try with_reducible rfl
              try simp only [Act.put, List.setIfInBounds_toArray, List.set_cons_zero, List.set_cons_succ]
              refine takeW (i := 16) (v := ?_) (some 95) rfl (by kernel_rfl) (by kernel_rfl) (by kernel_rfl) (by kernel_rfl) (by kernel_rfl) (by assumption) ?_ ?_
              rotate_left
              · intro w hSw; go_simp; try with_reducible rfl
              try simp only [Act.put, List.setIfInBounds_toArray, List.set_cons_zero, List.set_cons_succ]
              refine takeW (i := 17) (v := ?_) (some 96) rfl (by kernel_rfl) (by kernel_rfl) (by kernel_rfl) (by kernel_rfl) (by kernel_rfl) (by assumption) ?_ ?_
              rotate_left
              · intro w hSw; have hx := SY w hSw; go_simp; try with_reducible rfl
              try simp only [Act.put, List.setIfInBounds_toArray, List.set_cons_zero, List.set_cons_succ]
              refine wpAnyH_ready (rs := [10]) (by kernel_rfl) (by simp) ?_
              refine AllReadyH.cons rfl (fun K hK => ?_) AllReadyH.nil
              go_simp
              refine hK.out _ _ (by first | exact kA _ _ (by assumption) | exact kAd _ _ (by assumption)) (fun hHeld => ?_)
              clear hK K
              try simp only [Act.put, List.setIfInBounds_toArray, List.set_cons_zero, List.set_cons_succ]
              refine wpAnyH_ready (rs := [12]) (by kernel_rfl) (by simp) ?_
              refine AllReadyH.cons rfl (fun K hK => ?_) AllReadyH.nil
              rw [if_pos (by kernel_rfl)]
              refine appXwp (.tmp 89) (.tmp 90) rfl (some 91) (by kernel_rfl) w31.heap.size _ _ [] bs rfl rfl (ownG _ w31.heap.size (by first | exact heap_alloc_new _ _ | exact heap1d _ _ | exact heapOld _ _ _ | exact heapNew2 _ _ _)) (SB _ (by assumption)) (by simp; try omega) (by simp only [List.length_nil]; omega) ?_
              intro v33 w33 ho33 hb33
              rw [List.nil_append] at ho33
              refine hK.out _ _ (hInv _ _ (hb33.mono LO2) (by assumption)) (fun hHeld => ?_)
              clear hK K
              try simp only [Act.put, List.setIfInBounds_toArray, List.set_cons_zero, List.set_cons_succ]
              refine wpAnyH_ready (rs := [14]) (by kernel_rfl) (by simp) ?_
              refine AllReadyH.cons rfl (fun K hK => ?_) AllReadyH.nil
              go_simp
              refine (hN15 _ _ w31.heap.size (by assumption) ho33 LO2 (by have := hb33.size; simp at this; omega)).mono ?_
              rintro e w34 ⟨v34, rfl, ho34, hb34⟩
              have hcv34 := conv_str ho34.bts
              rw [hsY] at hcv34
              refine hK.out _ _ (hInv _ _ (hb34.mono LO2) (by assumption)) (fun hHeld => ?_)
              clear hK K
              try simp only [Act.put, List.setIfInBounds_toArray, List.set_cons_zero, List.set_cons_succ]
              refine wpAnyH_ready (rs := [15]) (by kernel_rfl) (by simp) ?_
              refine AllReadyH.cons rfl (fun K hK => ?_) AllReadyH.nil
              go_simp
              refine hK.out _ _ (by assumption) (fun hHeld => ?_)
              clear hK K
              try simp only [Act.put, List.setIfInBounds_toArray, List.set_cons_zero, List.set_cons_succ]
              refine takeW (i := 18) (v := ?_) (some 97) rfl (by kernel_rfl) (by kernel_rfl) (by kernel_rfl) (by kernel_rfl) (by kernel_rfl) (by assumption) ?_ ?_
              rotate_left
              · intro w hSw; go_simp; try with_reducible rfl
              try simp only [Act.put, List.setIfInBounds_toArray, List.set_cons_zero, List.set_cons_succ]
              refine takeW (i := 19) (v := ?_) (some 98) rfl (by kernel_rfl) (by kernel_rfl) (by kernel_rfl) (by kernel_rfl) (by kernel_rfl) (by assumption) ?_ ?_
              rotate_left
              · intro w hSw; go_simp; try with_reducible rfl
              try simp only [Act.put, List.setIfInBounds_toArray, List.set_cons_zero, List.set_cons_succ]
              refine takeW (i := 20) (v := ?_) (some 99) rfl (by kernel_rfl) (by kernel_rfl) (by kernel_rfl) (by kernel_rfl) (by kernel_rfl) (by assumption) ?_ ?_
              rotate_left
              · intro w hSw; go_simp; try with_reducible rfl
              try simp only [Act.put, List.setIfInBounds_toArray, List.set_cons_zero, List.set_cons_succ]
              have LO3 : N0 ≤ w34.heap.size := SN _ hHeld
              refine takeW (i := 22) (v := ?_) (some 101) rfl (by kernel_rfl) (by kernel_rfl) (by kernel_rfl) (by kernel_rfl) (by kernel_rfl) (by assumption) ?_ ?_
              rotate_left
              · intro w hSw; go_simp; try with_reducible rfl
              try simp only [Act.put, List.setIfInBounds_toArray, List.set_cons_zero, List.set_cons_succ]
              refine takeW (i := 24) (v := ?_) (some 103) rfl (by kernel_rfl) (by kernel_rfl) (by kernel_rfl) (by kernel_rfl) (by kernel_rfl) (by assumption) ?_ ?_
              rotate_left
              · intro w hSw; go_simp; try with_reducible rfl
              try simp only [Act.put, List.setIfInBounds_toArray, List.set_cons_zero, List.set_cons_succ]
              refine takeW (i := 27) (v := ?_) (some 106) rfl (by kernel_rfl) (by kernel_rfl) (by kernel_rfl) (by kernel_rfl) (by kernel_rfl) (by assumption) ?_ ?_
              rotate_left
              · intro w hSw; go_simp; try with_reducible rfl
              try simp only [Act.put, List.setIfInBounds_toArray, List.set_cons_zero, List.set_cons_succ]
              refine takeW (i := 28) (v := ?_) (some 107) rfl (by kernel_rfl) (by kernel_rfl) (by kernel_rfl) (by kernel_rfl) (by kernel_rfl) (by assumption) ?_ ?_
              rotate_left
              · intro w hSw; have hx := SZ w hSw; go_simp; try with_reducible rfl
              try simp only [Act.put, List.setIfInBounds_toArray, List.set_cons_zero, List.set_cons_succ]
              refine wpAnyH_ready (rs := [21]) (by kernel_rfl) (by simp) ?_
              refine AllReadyH.cons rfl (fun K hK => ?_) AllReadyH.nil
              go_simp
              refine hK.out _ _ (by first | exact kA _ _ (by assumption) | exact kAd _ _ (by assumption)) (fun hHeld => ?_)
              clear hK K
              try simp only [Act.put, List.setIfInBounds_toArray, List.set_cons_zero, List.set_cons_succ]
              refine wpAnyH_ready (rs := [23]) (by kernel_rfl) (by simp) ?_
              refine AllReadyH.cons rfl (fun K hK => ?_) AllReadyH.nil
              rw [if_pos (by kernel_rfl)]
              refine appXwp (.tmp 100) (.tmp 101) rfl (some 102) (by kernel_rfl) w34.heap.size _ _ [] bs rfl rfl (ownG _ w34.heap.size (by first | exact heap_alloc_new _ _ | exact heap1d _ _ | exact heapOld _ _ _ | exact heapNew2 _ _ _)) (SB _ (by assumption)) (by simp; try omega) (by simp only [List.length_nil]; omega) ?_
              intro v36 w36 ho36 hb36
              rw [List.nil_append] at ho36
              refine hK.out _ _ (hInv _ _ (hb36.mono LO3) (by assumption)) (fun hHeld => ?_)
              clear hK K
              try simp only [Act.put, List.setIfInBounds_toArray, List.set_cons_zero, List.set_cons_succ]
              refine wpAnyH_ready (rs := [25]) (by kernel_rfl) (by simp) ?_
              refine AllReadyH.cons rfl (fun K hK => ?_) AllReadyH.nil
              go_simp
              refine (hN16 _ _ w34.heap.size (by assumption) ho36 LO3 (by have := hb36.size; simp at this; omega)).mono ?_
              rintro e w37 ⟨v37, rfl, ho37, hb37⟩
              have hcv37 := conv_str ho37.bts
              rw [hsZ] at hcv37
              refine hK.out _ _ (hInv _ _ (hb37.mono LO3) (by assumption)) (fun hHeld => ?_)
              clear hK K
              try simp only [Act.put, List.setIfInBounds_toArray, List.set_cons_zero, List.set_cons_succ]
              refine wpAnyH_ready (rs := [26]) (by kernel_rfl) (by simp) ?_
              refine AllReadyH.cons rfl (fun K hK => ?_) AllReadyH.nil
              go_simp
              refine hK.out _ _ (by assumption) (fun hHeld => ?_)
              clear hK K
              try simp only [Act.put, List.setIfInBounds_toArray, List.set_cons_zero, List.set_cons_succ]
              refine takeW (i := 29) (v := ?_) (some 108) rfl (by kernel_rfl) (by kernel_rfl) (by kernel_rfl) (by kernel_rfl) (by kernel_rfl) (by assumption) ?_ ?_
              rotate_left
              · intro w hSw; go_simp; try with_reducible rfl
              try simp only [Act.put, List.setIfInBounds_toArray, List.set_cons_zero, List.set_cons_succ]
              refine takeW (i := 30) (v := ?_) (some 109) rfl (by kernel_rfl) (by kernel_rfl) (by kernel_rfl) (by kernel_rfl) (by kernel_rfl) (by assumption) ?_ ?_
              rotate_left
              · intro w hSw; go_simp; try with_reducible rfl
              try simp only [Act.put, List.setIfInBounds_toArray, List.set_cons_zero, List.set_cons_succ]
              refine takeW (i := 31) (v := ?_) (some 110) rfl (by kernel_rfl) (by kernel_rfl) (by kernel_rfl) (by kernel_rfl) (by kernel_rfl) (by assumption) ?_ ?_
              rotate_left
              · intro w hSw; go_simp; try with_reducible rfl
              try simp only [Act.put, List.setIfInBounds_toArray, List.set_cons_zero, List.set_cons_succ]
              have LO4a : N0 ≤ w37.heap.size := SN _ hHeld
              refine takeW (i := 32) (v := ?_) (some 111) rfl (by kernel_rfl) (by kernel_rfl) (by kernel_rfl) (by kernel_rfl) (by kernel_rfl) (by assumption) ?_ ?_
              rotate_left
              · intro w hSw; go_simp; try with_reducible rfl
              try simp only [Act.put, List.setIfInBounds_toArray, List.set_cons_zero, List.set_cons_succ]
              refine takeW (i := 33) (v := ?_) (some 112) rfl (by kernel_rfl) (by kernel_rfl) (by kernel_rfl) (by kernel_rfl) (by kernel_rfl) (by assumption) ?_ ?_
              rotate_left
              · intro w hSw; go_simp; try with_reducible rfl
              try simp only [Act.put, List.setIfInBounds_toArray, List.set_cons_zero, List.set_cons_succ]
              refine takeW (i := 37) (v := ?_) (some 116) rfl (by kernel_rfl) (by kernel_rfl) (by kernel_rfl) (by kernel_rfl) (by kernel_rfl) (by assumption) ?_ ?_
              rotate_left
              · intro w hSw; go_simp; try with_reducible rfl
              try simp only [Act.put, List.setIfInBounds_toArray, List.set_cons_zero, List.set_cons_succ]
              refine takeW (i := 39) (v := ?_) (some 118) rfl (by kernel_rfl) (by kernel_rfl) (by kernel_rfl) (by kernel_rfl) (by kernel_rfl) (by assumption) ?_ ?_
              rotate_left
              · intro w hSw; go_simp; try with_reducible rfl
              try simp only [Act.put, List.setIfInBounds_toArray, List.set_cons_zero, List.set_cons_succ]
              refine wpAnyH_ready (rs := [34, 36]) (by kernel_rfl) (by simp) ?_
              refine AllReadyH.cons rfl (fun K hK => ?_) (AllReadyH.cons rfl (fun K hK => ?_) AllReadyH.nil)
              · go_simp
                refine hK.out _ _ (by first | exact kA _ _ (by assumption) | exact kAd _ _ (by assumption)) (fun hHeld => ?_)
                clear hK K
                try simp only [Act.put, List.setIfInBounds_toArray, List.set_cons_zero, List.set_cons_succ]
                refine wpAnyH_ready (rs := [35, 36]) (by kernel_rfl) (by simp) ?_
                refine AllReadyH.cons rfl (fun K hK => ?_) (AllReadyH.cons rfl (fun K hK => ?_) AllReadyH.nil)
                · go_simp
                  refine (hmark _ _ (by first | exact heap_alloc_new _ _ | exact heap1d _ _ | exact heapOld _ _ _ | exact heapNew2 _ _ _) (by assumption)).mono ?_
                  rintro e w60 ⟨rfl, hw60⟩
                  subst w60
                  refine hK.out _ _ (by assumption) (fun hHeld => ?_)
                  clear hK K
                  try simp only [Act.put, List.setIfInBounds_toArray, List.set_cons_zero, List.set_cons_succ]
                  refine wpAnyH_ready (rs := [36]) (by kernel_rfl) (by simp) ?_
                  refine AllReadyH.cons rfl (fun K hK => ?_) AllReadyH.nil
                  go_simp
                  refine hK.out _ _ (by first | exact kA _ _ (by assumption) | exact kAd _ _ (by assumption)) (fun hHeld => ?_)
                  clear hK K
                  try simp only [Act.put, List.setIfInBounds_toArray, List.set_cons_zero, List.set_cons_succ]
                  have LO4 : N0 ≤ w37.heap.size + 1 := by omega
                  refine wpAnyH_ready (rs := [38]) (by kernel_rfl) (by simp) ?_
                  refine AllReadyH.cons rfl (fun K hK => ?_) AllReadyH.nil
                  rw [if_pos (by kernel_rfl)]
                  refine appXwp (.tmp 115) (.tmp 116) rfl (some 117) (by kernel_rfl) (w37.heap.size + 1) _ _ [] bs rfl rfl (ownG _ (w37.heap.size + 1) (by first | exact heap_alloc_new _ _ | exact heap1d _ _ | exact heapOld _ _ _ | exact heapNew2 _ _ _)) (SB _ (by assumption)) (by simp; try omega) (by simp only [List.length_nil]; omega) ?_
                  intro v50 w50 ho50 hb50
                  rw [List.nil_append] at ho50
                  refine hK.out _ _ (hInv _ _ (hb50.mono LO4) (by assumption)) (fun hHeld => ?_)
                  clear hK K
                  try simp only [Act.put, List.setIfInBounds_toArray, List.set_cons_zero, List.set_cons_succ]
                  refine wpAnyH_ready (rs := [40]) (by kernel_rfl) (by simp) ?_
                  refine AllReadyH.cons rfl (fun K hK => ?_) AllReadyH.nil
                  rw [if_pos (by kernel_rfl)]
                  refine appXwp (.tmp 117) (.tmp 118) rfl (some 119) (by kernel_rfl) (w37.heap.size + 1) _ _ bs X rfl rfl ho50 (SXb _ (by assumption)) (by have := hb50.size; simp at this; omega) (by omega) ?_
                  intro v51 w51 ho51 hb51
                  refine hK.out _ _ (hInv _ _ (hb51.mono LO4) (by assumption)) (fun hHeld => ?_)
                  clear hK K
                  try simp only [Act.put, List.setIfInBounds_toArray, List.set_cons_zero, List.set_cons_succ]
                  refine wpAnyH_ready (rs := [41]) (by kernel_rfl) (by simp) ?_
                  refine AllReadyH.cons rfl (fun K hK => ?_) AllReadyH.nil
                  go_simp
                  refine (crc_any (bs ++ X) _ _ hbX (by simp only [List.length_append]; omega) ho51.bts).mono ?_
                  rintro e w52 ⟨rfl, hw52⟩
                  subst w52
                  rw [hMM]
                  refine hK.out _ _ (by assumption) (fun hHeld => ?_)
                  clear hK K
                  try simp only [Act.put, List.setIfInBounds_toArray, List.set_cons_zero, List.set_cons_succ]
                  refine takeW (i := 42) (v := ?_) (some 121) rfl (by kernel_rfl) (by kernel_rfl) (by kernel_rfl) (by kernel_rfl) (by kernel_rfl) (by assumption) ?_ ?_
                  rotate_left
                  · intro w hSw; go_simp; try with_reducible rfl
                  try simp only [Act.put, List.setIfInBounds_toArray, List.set_cons_zero, List.set_cons_succ]
                  refine takeW (i := 43) (v := ?_) (some 122) rfl (by kernel_rfl) (by kernel_rfl) (by kernel_rfl) (by kernel_rfl) (by kernel_rfl) (by assumption) ?_ ?_
                  rotate_left
                  · intro w hSw; go_simp; try with_reducible rfl
                  try simp only [Act.put, List.setIfInBounds_toArray, List.set_cons_zero, List.set_cons_succ]
                  refine takeW (i := 44) (v := ?_) (some 123) rfl (by kernel_rfl) (by kernel_rfl) (by kernel_rfl) (by kernel_rfl) (by kernel_rfl) (by assumption) ?_ ?_
                  rotate_left
                  · intro w hSw; go_simp; try with_reducible rfl
                  try simp only [Act.put, List.setIfInBounds_toArray, List.set_cons_zero, List.set_cons_succ]
                  refine wpAnyH_ready (rs := [45]) (by kernel_rfl) (by simp) ?_
                  refine AllReadyH.cons rfl (fun K hK => ?_) AllReadyH.nil
                  go_simp
                  refine (live_any _).mono ?_
                  rintro e w53 ⟨rfl, hb53⟩
                  refine hK.out _ _ (hInv _ _ (hb53.mono (SN _ (by assumption))) (by assumption)) (fun hHeld => ?_)
                  clear hK K
                  try simp only [Act.put, List.setIfInBounds_toArray, List.set_cons_zero, List.set_cons_succ]
                  refine takeW (i := 46) (v := ?_) (some 125) rfl (by kernel_rfl) (by kernel_rfl) (by kernel_rfl) (by kernel_rfl) (by kernel_rfl) (by assumption) ?_ ?_
                  rotate_left
                  · intro w hSw; go_simp; try with_reducible rfl
                  try simp only [Act.put, List.setIfInBounds_toArray, List.set_cons_zero, List.set_cons_succ]
                  refine takeW (i := 47) (v := ?_) (some 8) rfl (by kernel_rfl) (by kernel_rfl) (by kernel_rfl) (by kernel_rfl) (by kernel_rfl) (by assumption) ?_ ?_
                  rotate_left
                  · intro w hSw; go_simp; try with_reducible rfl
                  try simp only [Act.put, List.setIfInBounds_toArray, List.set_cons_zero, List.set_cons_succ]
                  refine wpAnyH_done (by kernel_rfl) ?_ _
                  refine NoPanic.normal ?_
                  go_wp2
                  go_ret
                  exact ⟨rfl, SL _ hHeld⟩
                · go_simp
                  refine hK.out _ _ (by first | exact kA _ _ (by assumption) | exact kAd _ _ (by assumption)) (fun hHeld => ?_)
                  clear hK K
                  try simp only [Act.put, List.setIfInBounds_toArray, List.set_cons_zero, List.set_cons_succ]
                  refine wpAnyH_ready (rs := [35]) (by kernel_rfl) (by simp) ?_
                  refine AllReadyH.cons rfl (fun K hK => ?_) AllReadyH.nil
                  go_simp
                  refine (hmark _ _ (by first | exact heap_alloc_new _ _ | exact heap1d _ _ | exact heapOld _ _ _ | exact heapNew2 _ _ _) (by assumption)).mono ?_
                  rintro e w60 ⟨rfl, hw60⟩
                  subst w60
                  refine hK.out _ _ (by assumption) (fun hHeld => ?_)
                  clear hK K
                  try simp only [Act.put, List.setIfInBounds_toArray, List.set_cons_zero, List.set_cons_succ]
                  have LO4 : N0 ≤ w37.heap.size + 1 := by omega
                  refine wpAnyH_ready (rs := [38]) (by kernel_rfl) (by simp) ?_
                  refine AllReadyH.cons rfl (fun K hK => ?_) AllReadyH.nil
                  rw [if_pos (by kernel_rfl)]
                  refine appXwp (.tmp 115) (.tmp 116) rfl (some 117) (by kernel_rfl) (w37.heap.size + 1) _ _ [] bs rfl rfl (ownG _ (w37.heap.size + 1) (by first | exact heap_alloc_new _ _ | exact heap1d _ _ | exact heapOld _ _ _ | exact heapNew2 _ _ _)) (SB _ (by assumption)) (by simp; try omega) (by simp only [List.length_nil]; omega) ?_
                  intro v50 w50 ho50 hb50
                  rw [List.nil_append] at ho50
                  refine hK.out _ _ (hInv _ _ (hb50.mono LO4) (by assumption)) (fun hHeld => ?_)
                  clear hK K
                  try simp only [Act.put, List.setIfInBounds_toArray, List.set_cons_zero, List.set_cons_succ]
                  refine wpAnyH_ready (rs := [40]) (by kernel_rfl) (by simp) ?_
                  refine AllReadyH.cons rfl (fun K hK => ?_) AllReadyH.nil
                  rw [if_pos (by kernel_rfl)]
                  refine appXwp (.tmp 117) (.tmp 118) rfl (some 119) (by kernel_rfl) (w37.heap.size + 1) _ _ bs X rfl rfl ho50 (SXb _ (by assumption)) (by have := hb50.size; simp at this; omega) (by omega) ?_
                  intro v51 w51 ho51 hb51
                  refine hK.out _ _ (hInv _ _ (hb51.mono LO4) (by assumption)) (fun hHeld => ?_)
                  clear hK K
                  try simp only [Act.put, List.setIfInBounds_toArray, List.set_cons_zero, List.set_cons_succ]
                  refine wpAnyH_ready (rs := [41]) (by kernel_rfl) (by simp) ?_
                  refine AllReadyH.cons rfl (fun K hK => ?_) AllReadyH.nil
                  go_simp
                  refine (crc_any (bs ++ X) _ _ hbX (by simp only [List.length_append]; omega) ho51.bts).mono ?_
                  rintro e w52 ⟨rfl, hw52⟩
                  subst w52
                  rw [hMM]
                  refine hK.out _ _ (by assumption) (fun hHeld => ?_)
                  clear hK K
                  try simp only [Act.put, List.setIfInBounds_toArray, List.set_cons_zero, List.set_cons_succ]
                  refine takeW (i := 42) (v := ?_) (some 121) rfl (by kernel_rfl) (by kernel_rfl) (by kernel_rfl) (by kernel_rfl) (by kernel_rfl) (by assumption) ?_ ?_
                  rotate_left
                  · intro w hSw; go_simp; try with_reducible rfl
                  try simp only [Act.put, List.setIfInBounds_toArray, List.set_cons_zero, List.set_cons_succ]
                  refine takeW (i := 43) (v := ?_) (some 122) rfl (by kernel_rfl) (by kernel_rfl) (by kernel_rfl) (by kernel_rfl) (by kernel_rfl) (by assumption) ?_ ?_
                  rotate_left
                  · intro w hSw; go_simp; try with_reducible rfl
                  try simp only [Act.put, List.setIfInBounds_toArray, List.set_cons_zero, List.set_cons_succ]
                  refine takeW (i := 44) (v := ?_) (some 123) rfl (by kernel_rfl) (by kernel_rfl) (by kernel_rfl) (by kernel_rfl) (by kernel_rfl) (by assumption) ?_ ?_
                  rotate_left
                  · intro w hSw; go_simp; try with_reducible rfl
                  try simp only [Act.put, List.setIfInBounds_toArray, List.set_cons_zero, List.set_cons_succ]
                  refine wpAnyH_ready (rs := [45]) (by kernel_rfl) (by simp) ?_
                  refine AllReadyH.cons rfl (fun K hK => ?_) AllReadyH.nil
                  go_simp
                  refine (live_any _).mono ?_
                  rintro e w53 ⟨rfl, hb53⟩
                  refine hK.out _ _ (hInv _ _ (hb53.mono (SN _ (by assumption))) (by assumption)) (fun hHeld => ?_)
                  clear hK K
                  try simp only [Act.put, List.setIfInBounds_toArray, List.set_cons_zero, List.set_cons_succ]
                  refine takeW (i := 46) (v := ?_) (some 125) rfl (by kernel_rfl) (by kernel_rfl) (by kernel_rfl) (by kernel_rfl) (by kernel_rfl) (by assumption) ?_ ?_
                  rotate_left
                  · intro w hSw; go_simp; try with_reducible rfl
                  try simp only [Act.put, List.setIfInBounds_toArray, List.set_cons_zero, List.set_cons_succ]
                  refine takeW (i := 47) (v := ?_) (some 8) rfl (by kernel_rfl) (by kernel_rfl) (by kernel_rfl) (by kernel_rfl) (by kernel_rfl) (by assumption) ?_ ?_
                  rotate_left
                  · intro w hSw; go_simp; try with_reducible rfl
                  try simp only [Act.put, List.setIfInBounds_toArray, List.set_cons_zero, List.set_cons_succ]
                  refine wpAnyH_done (by kernel_rfl) ?_ _
                  refine NoPanic.normal ?_
                  go_wp2
                  go_ret
                  exact ⟨rfl, SL _ hHeld⟩
              · go_simp
                refine hK.out _ _ (by first | exact kA _ _ (by assumption) | exact kAd _ _ (by assumption)) (fun hHeld => ?_)
                clear hK K
                try simp only [Act.put, List.setIfInBounds_toArray, List.set_cons_zero, List.set_cons_succ]
                refine wpAnyH_ready (rs := [34]) (by kernel_rfl) (by simp) ?_
                refine AllReadyH.cons rfl (fun K hK => ?_) AllReadyH.nil
                go_simp
                refine hK.out _ _ (by first | exact kA _ _ (by assumption) | exact kAd _ _ (by assumption)) (fun hHeld => ?_)
                clear hK K
                try simp only [Act.put, List.setIfInBounds_toArray, List.set_cons_zero, List.set_cons_succ]
                refine wpAnyH_ready (rs := [35]) (by kernel_rfl) (by simp) ?_
                refine AllReadyH.cons rfl (fun K hK => ?_) AllReadyH.nil
                go_simp
                refine (hmark _ _ (by first | exact heap_alloc_new _ _ | exact heap1d _ _ | exact heapOld _ _ _ | exact heapNew2 _ _ _) (by assumption)).mono ?_
                rintro e w60 ⟨rfl, hw60⟩
                subst w60
                refine hK.out _ _ (by assumption) (fun hHeld => ?_)
                clear hK K
                try simp only [Act.put, List.setIfInBounds_toArray, List.set_cons_zero, List.set_cons_succ]
                have LO4 : N0 ≤ w37.heap.size := LO4a
                refine wpAnyH_ready (rs := [38]) (by kernel_rfl) (by simp) ?_
                refine AllReadyH.cons rfl (fun K hK => ?_) AllReadyH.nil
                rw [if_pos (by kernel_rfl)]
                refine appXwp (.tmp 115) (.tmp 116) rfl (some 117) (by kernel_rfl) w37.heap.size _ _ [] bs rfl rfl (ownG _ w37.heap.size (by first | exact heap_alloc_new _ _ | exact heap1d _ _ | exact heapOld _ _ _ | exact heapNew2 _ _ _)) (SB _ (by assumption)) (by simp; try omega) (by simp only [List.length_nil]; omega) ?_
                intro v50 w50 ho50 hb50
                rw [List.nil_append] at ho50
                refine hK.out _ _ (hInv _ _ (hb50.mono LO4) (by assumption)) (fun hHeld => ?_)
                clear hK K
                try simp only [Act.put, List.setIfInBounds_toArray, List.set_cons_zero, List.set_cons_succ]
                refine wpAnyH_ready (rs := [40]) (by kernel_rfl) (by simp) ?_
                refine AllReadyH.cons rfl (fun K hK => ?_) AllReadyH.nil
                rw [if_pos (by kernel_rfl)]
                refine appXwp (.tmp 117) (.tmp 118) rfl (some 119) (by kernel_rfl) w37.heap.size _ _ bs X rfl rfl ho50 (SXb _ (by assumption)) (by have := hb50.size; simp at this; omega) (by omega) ?_
                intro v51 w51 ho51 hb51
                refine hK.out _ _ (hInv _ _ (hb51.mono LO4) (by assumption)) (fun hHeld => ?_)
                clear hK K
                try simp only [Act.put, List.setIfInBounds_toArray, List.set_cons_zero, List.set_cons_succ]
                refine wpAnyH_ready (rs := [41]) (by kernel_rfl) (by simp) ?_
                refine AllReadyH.cons rfl (fun K hK => ?_) AllReadyH.nil
                go_simp
                refine (crc_any (bs ++ X) _ _ hbX (by simp only [List.length_append]; omega) ho51.bts).mono ?_
                rintro e w52 ⟨rfl, hw52⟩
                subst w52
                rw [hMM]
                refine hK.out _ _ (by assumption) (fun hHeld => ?_)
                clear hK K
                try simp only [Act.put, List.setIfInBounds_toArray, List.set_cons_zero, List.set_cons_succ]
                refine takeW (i := 42) (v := ?_) (some 121) rfl (by kernel_rfl) (by kernel_rfl) (by kernel_rfl) (by kernel_rfl) (by kernel_rfl) (by assumption) ?_ ?_
                rotate_left
                · intro w hSw; go_simp; try with_reducible rfl
                try simp only [Act.put, List.setIfInBounds_toArray, List.set_cons_zero, List.set_cons_succ]
                refine takeW (i := 43) (v := ?_) (some 122) rfl (by kernel_rfl) (by kernel_rfl) (by kernel_rfl) (by kernel_rfl) (by kernel_rfl) (by assumption) ?_ ?_
                rotate_left
                · intro w hSw; go_simp; try with_reducible rfl
                try simp only [Act.put, List.setIfInBounds_toArray, List.set_cons_zero, List.set_cons_succ]
                refine takeW (i := 44) (v := ?_) (some 123) rfl (by kernel_rfl) (by kernel_rfl) (by kernel_rfl) (by kernel_rfl) (by kernel_rfl) (by assumption) ?_ ?_
                rotate_left
                · intro w hSw; go_simp; try with_reducible rfl
                try simp only [Act.put, List.setIfInBounds_toArray, List.set_cons_zero, List.set_cons_succ]
                refine wpAnyH_ready (rs := [45]) (by kernel_rfl) (by simp) ?_
                refine AllReadyH.cons rfl (fun K hK => ?_) AllReadyH.nil
                go_simp
                refine (live_any _).mono ?_
                rintro e w53 ⟨rfl, hb53⟩
                refine hK.out _ _ (hInv _ _ (hb53.mono (SN _ (by assumption))) (by assumption)) (fun hHeld => ?_)
                clear hK K
                try simp only [Act.put, List.setIfInBounds_toArray, List.set_cons_zero, List.set_cons_succ]
                refine takeW (i := 46) (v := ?_) (some 125) rfl (by kernel_rfl) (by kernel_rfl) (by kernel_rfl) (by kernel_rfl) (by kernel_rfl) (by assumption) ?_ ?_
                rotate_left
                · intro w hSw; go_simp; try with_reducible rfl
                try simp only [Act.put, List.setIfInBounds_toArray, List.set_cons_zero, List.set_cons_succ]
                refine takeW (i := 47) (v := ?_) (some 8) rfl (by kernel_rfl) (by kernel_rfl) (by kernel_rfl) (by kernel_rfl) (by kernel_rfl) (by assumption) ?_ ?_
                rotate_left
                · intro w hSw; go_simp; try with_reducible rfl
                try simp only [Act.put, List.setIfInBounds_toArray, List.set_cons_zero, List.set_cons_succ]
                refine wpAnyH_done (by kernel_rfl) ?_ _
                refine NoPanic.normal ?_
                go_wp2
                go_ret
                exact ⟨rfl, SL _ hHeld⟩
/-- Numbers of a slice of uint64, as they are. -/
theorem nat_row {w : World} {a : Option Addr} {len cap : Nat} {zs : List Int} (h : IsRow .u64 w a len cap zs) :
    ∃ ls : List Nat, ls.length = len ∧ (∀ n ∈ ls, n < 2 ^ 64) ∧ (ls = [] ∨ ∃ b o, a = some ⟨b, o, none⟩ ∧ Rest w 0 ls.length b o (fun t => .int .u64 (ls.getD t 0 : Nat)) ∧ b < w.heap.size) := by
  have hl := h.len
  have hw := h.wf
  have hr := h.rest
  generalize zs.take len = z at hl hw hr
  refine ⟨z.map Int.toNat, by simpa using hl, ?_, ?_⟩
  · intro n hn
    obtain ⟨x, hx, rfl⟩ := List.mem_map.1 hn
    have := u64_bounds x (hw x hx)
    omega
  · rcases hr with h | ⟨b, o, e, hr, hb⟩
    · exact .inl (by simp [h])
    · refine .inr ⟨b, o, e, fun t h0 ht => ?_, hb⟩
      rw [List.length_map] at ht
      rw [hr t h0 ht]
      have := u64_bounds _ (hw _ (getD_mem z 0 t ht))
      have e2 : ((z.map Int.toNat).getD t 0 : Nat) = (z.getD t 0).toNat := by simp [ht]
      show some (Value.int .u64 (z.getD t 0)) = some (Value.int .u64 (((z.map Int.toNat).getD t 0 : Nat) : Int))
      rw [e2, Int.toNat_of_nonneg this.1]

theorem walk (a : Option Addr) (nb c : Nat) (zb : List Int) (a0 : Option Addr) (n0 c0 : Nat) (z0 : List Int) (a1 : Option Addr) (n1 c1 : Nat) (z1 : List Int) (a2 : Option Addr) (n2 c2 : Nat) (s2 : List ByteArray) (w : World) (wb : IsRow .u8 w a nb c zb) (w0 : IsRow .u64 w a0 n0 c0 z0) (w1 : IsRow .i64 w a1 n1 c1 z1) (w2 : IsStrs w a2 n2 c2 s2) :
    Calls Try.prog 3 #[.slice a nb c, .slice a0 n0 c0, .slice a1 n1 c1, .slice a2 n2 c2] w fun e w' => e = .returned (.bool true) ∧ Below w.heap.size w w' := by
  have lb := wb.len
  have hb := wb.bts
  have hby := wb.isBytes
  generalize zb.take nb = bs at lb hb hby
  subst lb
  obtain ⟨ls, rfl, hl, R0⟩ := nat_row w0
  have l1 := w1.len
  have R1 := w1.rest
  have hm : ∀ n ∈ z1.take n1, -9223372036854775808 ≤ n ∧ n ≤ 9223372036854775807 := fun n hn => bounds_i64 (w1.wf n hn)
  generalize z1.take n1 = ms at l1 R1 hm
  subst l1
  have l2 := w2.len
  have R2 := w2.rest
  have hre := w2.reach
  have hmx : n2 ≤ 9223372036854775807 := by
    rcases w2 with ⟨_, rfl, _, _⟩ | ⟨x, _, h1, h2, _⟩
    · omega
    · unfold maxLen at h2; omega
  generalize s2.take n2 = ss at l2 R2 hre
  subst l2
  have hT := texts_any ss a2 c2 w hre hmx R2
  by_cases hin : bs.length ≤ 20000 ∧ ls.length ≤ 60 ∧ ms.length ≤ 60 ∧ ss.length ≤ 60 ∧ total ss ≤ 20000
  · rw [show decide (ss.length ≤ 60 ∧ total ss ≤ 20000) = true by simp; omega] at hT
    exact walk_in bs ls ms ss a a0 a1 a2 c c0 c1 c2 w hb hby (by omega) hl hm (by omega) (by omega) (by omega) (by omega) R0 R1 R2 hT
  · refine walk_out bs.length ls.length ms.length ss a a0 a1 a2 c c0 c1 c2 w (fun h0 h1 h2 => ?_)
    rw [show decide (ss.length ≤ 60 ∧ total ss ≤ 20000) = false by simp; omega] at hT
    exact hT

/-! ### The row's step -/
/-- Each string of a slice of strings that is read is within the reach. -/
theorem sized_strs {H : Type} {P : Program} {ts : List TypeId} {ds : List (DataW H)} (h : (DataW.weightsEach P ts ds).all (· ≤ reachBytes) = true) {j : Nat} {t e : TypeId} {ss tt : List ByteArray} (ht : ts[j]? = some t) (hd : ds[j]? = some (.slice (strs ss) (strs tt))) (hu : P.underlying t = some (.slice e)) :
    ∀ s ∈ ss ++ tt, s.size ≤ reachBytes := by
  have hall : ∀ (l : List ByteArray), ∀ s ∈ l, s.size ∈ DataW.weightsAll (H := H) P e (strs l) := by
    intro l
    induction l with
    | nil => intro s hs; cases hs
    | cons x r ih =>
      intro s hs
      have e1 : DataW.weightsAll (H := H) P e (strs (x :: r)) = [x.data.toList.length] ++ DataW.weightsAll (H := H) P e (strs r) := by simp [strs, DataW.weightsAll, DataW.weights]
      rw [e1]
      rcases List.mem_cons.1 hs with rfl | hs
      · exact List.mem_append.2 (.inl (by rw [Array.length_toList]; exact List.mem_singleton.2 rfl))
      · exact List.mem_append.2 (.inr (ih s hs))
  intro s hs
  have hm : s.size ∈ DataW.weights P t (.slice (strs ss) (strs tt) : DataW H) := by
    simp only [DataW.weights, hu]
    rcases List.mem_append.1 hs with h | h
    · exact List.mem_cons.2 (.inr (List.mem_append.2 (.inl (hall ss s h))))
    · exact List.mem_cons.2 (.inr (List.mem_append.2 (.inr (hall tt s h))))
  have := List.all_eq_true.1 h _ (DataW.weights_mem_each ht hd s.size hm)
  simpa using this

set_option maxRecDepth 100000 in
theorem lifted (os : Os) (started : os.Started) (H : Type) (enc : TypeId × Value → H) :
    ReturnsInHanded {} Try.checked os 3 .any (Rows.quillPutsSpec.pre6 enc Try.prog Try.f3 Rows.quillPutsRow.domain false) (Rows.quillPutsSpec.post enc Try.prog Try.f3 false true false false) := by
  refine returnsInHanded_of_change_sized (C := Try.checked) own started (by kernel_rfl) Try.func3
    (ChangeSpec.witness6 (enc := enc) (C := Try.checked) false ⟨#[], #[.slice none 0 0, .slice none 0 0, .slice none 0 0, .slice none 0 0], []⟩ 8 (by kernel_rfl) (by kernel_rfl) (by kernel_rfl) (by kernel_rfl)) ?_
  intro W base args ds gs before hval0 hW hcnd hsz0 _
  have hval : ∀ (j : Nat) t v, Try.f3.params[j]? = some t → args[j]? = some v → Value.okWide Try.prog W .any base t v := hval0
  have hsz : (DataW.weightsEach Try.prog (Try.f3.params.toList ++ Rows.quillPutsSpec.plain.varTypes Try.prog) (ds ++ gs)).all (· ≤ reachBytes) = true := hsz0
  have hW' := hW
  obtain ⟨p, q, hA0, hV, rfl, hfz, hnd⟩ := hW
  have hA : DataW.TrodAll enc Try.prog W 0 (fun _ => true) true Try.f3.params.toList args.toList ds p := hA0
  rw [Try.params3] at hA hval hsz
  obtain ⟨v0, vs0, d0, ds0, p0, q0, hargs, rfl, rfl, h0, r0⟩ := trodAll_cons hA
  obtain ⟨v1, vs1, d1, ds1, p1, q1, rfl, rfl, rfl, h1, r1⟩ := trodAll_cons r0
  obtain ⟨v2, vs2, d2, ds2, p2, q2, rfl, rfl, rfl, h2, r2⟩ := trodAll_cons r1
  obtain ⟨v3, vs3, d3, ds3, p3, q3, rfl, rfl, rfl, h3, r3⟩ := trodAll_cons r2
  obtain ⟨rfl, rfl, rfl⟩ := trodAll_nil r3
  obtain rfl : args = #[v0, v1, v2, v3] := by cases args; simp_all
  obtain ⟨rfl, rfl⟩ := trodVars_none hV
  obtain ⟨a0, len0, cap0, rfl⟩ := okWide_slice Try.underlying22 (hval 0 22 v0 rfl rfl)
  have k0 := h0
  have lt0 : ∀ x ∈ p0, x.block < W.heap.size := by obtain ⟨m, hm⟩ := k0; exact DataW.trod_lt m _ _ _ hm
  obtain ⟨z0, w0⟩ : ∃ zs, IsRow .u8 W a0 len0 cap0 zs := by
    obtain ⟨fuel, hf⟩ := h0
    rcases open_ints Try.underlying22 Try.underlying5 (by kernel_rfl) hf with ⟨hcs, _⟩ | ⟨x, l, c, zs, hcs, _, hl, hm, hz, _, hcell, hwz⟩
    · simp [Value.cells] at hcs
      obtain ⟨rfl, rfl, rfl⟩ := hcs
      exact ⟨[], .inl ⟨rfl, rfl, rfl, rfl⟩⟩
    · simp [Value.cells] at hcs
      obtain ⟨rfl, rfl, rfl⟩ := hcs
      exact ⟨zs, .inr ⟨_, rfl, hl, hm, by simpa using hz, hcell, hwz⟩⟩
  obtain ⟨a1, len1, cap1, rfl⟩ := okWide_slice Try.underlying23 (hval 1 23 v1 rfl rfl)
  have k1 := h1
  have lt1 : ∀ x ∈ p1, x.block < W.heap.size := by obtain ⟨m, hm⟩ := k1; exact DataW.trod_lt m _ _ _ hm
  obtain ⟨z1, w1⟩ : ∃ zs, IsRow .u64 W a1 len1 cap1 zs := by
    obtain ⟨fuel, hf⟩ := h1
    rcases open_ints Try.underlying23 Try.underlying29 (by kernel_rfl) hf with ⟨hcs, _⟩ | ⟨x, l, c, zs, hcs, _, hl, hm, hz, _, hcell, hwz⟩
    · simp [Value.cells] at hcs
      obtain ⟨rfl, rfl, rfl⟩ := hcs
      exact ⟨[], .inl ⟨rfl, rfl, rfl, rfl⟩⟩
    · simp [Value.cells] at hcs
      obtain ⟨rfl, rfl, rfl⟩ := hcs
      exact ⟨zs, .inr ⟨_, rfl, hl, hm, by simpa using hz, hcell, hwz⟩⟩
  obtain ⟨a2, len2, cap2, rfl⟩ := okWide_slice Try.underlying24 (hval 2 24 v2 rfl rfl)
  have k2 := h2
  have lt2 : ∀ x ∈ p2, x.block < W.heap.size := by obtain ⟨m, hm⟩ := k2; exact DataW.trod_lt m _ _ _ hm
  obtain ⟨z2, w2⟩ : ∃ zs, IsRow .i64 W a2 len2 cap2 zs := by
    obtain ⟨fuel, hf⟩ := h2
    rcases open_ints Try.underlying24 Try.underlying2 (by kernel_rfl) hf with ⟨hcs, _⟩ | ⟨x, l, c, zs, hcs, _, hl, hm, hz, _, hcell, hwz⟩
    · simp [Value.cells] at hcs
      obtain ⟨rfl, rfl, rfl⟩ := hcs
      exact ⟨[], .inl ⟨rfl, rfl, rfl, rfl⟩⟩
    · simp [Value.cells] at hcs
      obtain ⟨rfl, rfl, rfl⟩ := hcs
      exact ⟨zs, .inr ⟨_, rfl, hl, hm, by simpa using hz, hcell, hwz⟩⟩
  obtain ⟨a3, len3, cap3, rfl⟩ := okWide_slice Try.underlying25 (hval 3 25 v3 rfl rfl)
  have k3 := h3
  have lt3 : ∀ x ∈ p3, x.block < W.heap.size := by obtain ⟨m, hm⟩ := k3; exact DataW.trod_lt m _ _ _ hm
  obtain ⟨s3, w3⟩ : ∃ ss, IsStrs W a3 len3 cap3 ss := by
    obtain ⟨fuel, hf⟩ := h3
    rcases open_strings Try.underlying25 Try.underlying9 (by kernel_rfl) hf with ⟨hcs, _⟩ | ⟨x, l, c, ss, hcs, _, hl, hm, hz, hx, hcell, _⟩
    · simp [Value.cells] at hcs
      obtain ⟨rfl, rfl, rfl⟩ := hcs
      exact ⟨[], .inl ⟨rfl, rfl, rfl, rfl⟩⟩
    · simp [Value.cells] at hcs
      obtain ⟨rfl, rfl, rfl⟩ := hcs
      have hd : d3 = .slice (strs (ss.take len3)) (strs (ss.drop len3)) := (Prod.mk.injEq _ _ _ _ ▸ hx).1
      subst hd
      have hre := sized_strs hsz (j := 3) (t := 25) (e := 9) rfl rfl Try.underlying25
      rw [List.take_append_drop] at hre
      exact ⟨ss, .inr ⟨_, rfl, hl, hm, by simpa using hz, hcell, hre⟩⟩
  clear hA0 hval0
  refine (walk a0 len0 cap0 z0 a1 len1 cap1 z1 a2 len2 cap2 z2 a3 len3 cap3 s3 W w0 w1 w2 w3).mono fun e W' ⟨he, bel⟩ => ?_
  subst he
  exact ⟨_, rfl, _, _, _, [], _, [], hW', trodAll_mk1 (shut_bool Try.underlying4 _), (trodAll_cons_mk (Below.trod laidOut (by kernel_rfl) (of_decide_eq_true (by kernel_rfl)) k0 bel lt0) (trodAll_cons_mk (Below.trod laidOut (by kernel_rfl) (of_decide_eq_true (by kernel_rfl)) k1 bel lt1) (trodAll_cons_mk (Below.trod laidOut (by kernel_rfl) (of_decide_eq_true (by kernel_rfl)) k2 bel lt2) (trodAll_cons_mk (Below.trod laidOut (by kernel_rfl) (of_decide_eq_true (by kernel_rfl)) k3 bel lt3) trodAll_mk0)))), rfl, bel.frame _, fun h => by cases h⟩

theorem over : Rows.quillPutsRow.holds Try.pinned (OpenSpec.ofChange Rows.quillPutsSpec) :=
  OpenClaim.holds_of_wide 3 Try.f3 rfl rfl rfl rfl rfl rfl rfl ⟨rfl, rfl, rfl, rfl, rfl⟩ rfl rfl rfl rfl rfl (by kernel_rfl) Try.func3 (by kernel_rfl)
    (of_decide_eq_true (by kernel_rfl)) (by unfold Func.isWrapper; first | (rw [if_pos (by decide +kernel)]; kernel_rfl) | (rw [if_neg (by decide +kernel)]; exact ⟨rfl, rfl⟩))
    (fun os started H enc _ => lifted os started H enc)
end Go.Proofs.Ytjieelpbifdfbaa.quillPuts
namespace Go.Proofs.Ytjieelpbifdfbaa
/-- The statement. -/
theorem quillPuts_holds : Rows.QuillPutsSaid := quillPuts.over
#print axioms quillPuts_holds
end Go.Proofs.Ytjieelpbifdfbaa
