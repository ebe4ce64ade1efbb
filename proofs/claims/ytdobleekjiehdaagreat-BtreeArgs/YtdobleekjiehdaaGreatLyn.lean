/- The contracts of part and layNodes: cells that lie in one leaf. -/
import Derived.Test.YtdobleekjiehdaaGreatCct
namespace Go.Proofs.YtdobleekjiehdaaGreat
set_option linter.unusedVariables false
open Go.RowKit
section
variable {w : World} {m most size : Nat} {ps : List ByteArray}
/-- Cells of another type than 9 and 29 are kept. -/
theorem Kl.cells {W : World} {k : Nat} {c : Array Value} {t : TypeId} {fr : Nat × Nat} (h : Kl m w W) (hm : IsMem w m ps most size) (hk : w.heap[k]? = some (.cells c t fr)) (h9 : t ≠ 9) (h29 : t ≠ 29) : W.heap[k]? = some (.cells c t fr) :=
  (h.block k (lt_of_block hk) (fun e => by
    obtain ⟨v, hv, _⟩ := hm
    rw [← e, hk] at hv
    cases hv
    exact h29 rfl) (nos_of hk h9)).trans hk
theorem OwnC.kl {W : World} {base : Nat} {v : Value} {l : List Cl} (h : OwnC w base v l) (hk : Kl m w W) (hm : IsMem w m ps most size) : OwnC W base v l := by
  refine ⟨h.1, ?_⟩
  rcases h.2 with h2 | ⟨g, cap, cur, e, hb, hg, rest⟩
  · exact .inl h2
  · exact .inr ⟨g, cap, cur, e, hb, hk.cells hm hg (by decide) (by decide), rest⟩
theorem PathAt.kl {W : World} {q p : Nat} {vS : Value} {th : Bool} (h : PathAt w q p vS th) (hk : Kl m w W) (hm : IsMem w m ps most size) : PathAt W q p vS th := hk.cells hm h (by decide) (by decide)
theorem WalkAt.kl {W : World} {p room mb : Nat} {nv : Value} (h : WalkAt w p nv room mb) (hk : Kl m w W) (hm : IsMem w m ps most size) : WalkAt W p nv room mb := hk.cells hm h (by decide) (by decide)
theorem OwnC.grow {W : World} {base : Nat} {v : Value} {l : List Cl} (h : OwnC w base v l) (hb : Below w.heap.size w W) : OwnC W base v l := World.ownsRow.kept (row := none) h ⟨hb.os, hb.tape, hb.output, hb.size, fun k hk _ => hb.block k hk⟩ (by cases v.ownBlock <;> simp)
set_option maxRecDepth 100000 in
set_option maxHeartbeats 2000000 in
theorem part_one (room : Nat) (a : Option Addr) (n cap : Nat) (l : List Cl) (hc : Cells w (.slice a n cap) l) (hok : ∀ c ∈ l, c.ok) (hlen : (nodeB 1 l).length ≤ room) (hr : room ≤ 1000000) (hl : l.length ≤ 8000000) :
    Calls Tryz.prog 100 #[.int .i64 1, .int .i64 room, .slice a n cap] w fun e w' => ∃ B, e = .returned (.slice (some ⟨B, 0, none⟩) 1 1) ∧ w'.heap[B]? = some (.cells #[.slice a n cap] 100 (0, 0)) ∧ Below w.heap.size w w' := by
  have hn : n = l.length := by obtain ⟨_, _, e, _⟩ := hc; cases e; rfl
  have hnb := nodeBytes_any (w := w) 1 (by omega) a n cap l hc hok (by omega) hl
  have hn3 : n ≤ 8000000 := by rw [hn]; exact hl
  clear hn
  by_cases h2 : n < 2
  · have d : decide ((n : Int) < 2) = true := by simp; omega
    go_enter Tryz.func100, Tryz.ntmps100
    go_wp2_with fail
    go_ret
    exact ⟨w.heap.size, rfl, heap_alloc_new w _, (Below.refl _ w).alloc (Nat.le_refl _) _⟩
  · have d : decide ((n : Int) < 2) = false := by simp; omega
    go_enter Tryz.func100, Tryz.ntmps100
    go_wp2_with (first | (go_at_call 99; refine hnb.mono ?_; rintro e w2 ⟨v2, rfl, ho2, hb2⟩; have hlb := len_bts ho2.bts; have d3 : decide (((nodeB 1 l).length : Int) ≤ (room : Int)) = true := (by simp; omega); generalize (nodeB 1 l).length = nl at *))
    go_ret
    exact ⟨w2.heap.size, rfl, heap_alloc_new w2 _, hb2.alloc hb2.size _⟩
/-- append(nil, c), in a region that draws. -/
theorem stepCel {ops : Array Oper} {o : Oper} {a : Act} {K : Act → World → Prop} {Q : Exit → Act → World → Prop} {E : Prop} (hg : o.guard = none) (s x : Operand)
    (hop : o.op = Op.call { callee := Callee.builtin Builtin.append, args := #[s, x], argTypes := #[100, 100] }) (g base : Nat) (c : Cl) (hs : a.eval s = .slice none 0 0) (hx : a.eval x = .slice (some ⟨g, 0, none⟩) 1 1)
    (hb : w.heap[g]? = some (.cells c.arr 90 (0, 0))) (hbase : base ≤ w.heap.size)
    (h : ∀ v' w', OwnC w' base v' [c] → Below w.heap.size w w' → K (a.put o.dst v') w') : if Region.wanted o (yielded ops a.tmps) = true then Oper.wp Tryz.prog o a w K Q else E := by
  have hw : Region.wanted o (yielded ops a.tmps) = true := by simp [Region.wanted, hg]
  rw [if_pos hw]
  obtain ⟨i0, hi, hz0, hz1, hz2⟩ := info_parts info90
  refine wp_append_own w s x 100 hop base 90 i0 _ 4 48 Tryz.underlying100 hi hz0 hz1 hz2 rfl (by decide) (.slice none 0 0) 0 [] hs (World.ownsRow_nil _ _ _ _) ⟨g, 0, none⟩ 1 1 (flat [c]) hx (flat_len [c]) ?_ (flat_oneCell [c]) (by unfold maxLen; omega) (by omega) hbase ?_
  · intro j y hj
    rw [add_at]
    simp only [World.cell?, Nat.zero_add, hb]
    simpa [flat] using hj
  · intro v' w' h1 h2 _
    exact h v' w' h1 ⟨h2.os, h2.tape, h2.output, h2.size, fun k hk => h2.block k hk (by simp [Value.ownBlock])⟩
set_option maxRecDepth 100000 in
set_option maxHeartbeats 4000000 in
theorem layNodes_ok {q p mb : Nat} {vS : Value} {th : Bool} (hq : PathAt w q p vS th) (hw : WalkAt w p (.iface 26 (.pointer (some ⟨m, 0, none⟩))) size mb) (hm : IsMem w m ps most size) (hs1 : 480 ≤ size) (hs2 : size ≤ 1000000) (hmo : ps.length < most) (hpl : ps.length ≤ 1000000) (base : Nat) (a : Option Addr) (n cap : Nat) (l : List Cl) (ho : OwnC w base (.slice a n cap) l) (h0 : l ≠ []) (hok : ∀ c ∈ l, c.ok) (hcn : ∀ c ∈ l, c.count ≤ 2147483647) (hlen : (nodeB 1 l).length ≤ size) (hl : l.length ≤ 8000000) :
    Calls Tryz.prog 76 #[.pointer (some ⟨q, 0, none⟩), .int .i64 1, .slice a n cap] w fun e w' => ∃ v', e = .returned (.tuple #[v', .int .i64 0]) ∧ OwnC w' w.heap.size v' [⟨(l.getD 0 cl0).key, ⟨#[]⟩, ps.length + 1, l.length⟩] ∧ IsMem w' m (ps ++ [strOfNums (nodeB 1 l)]) most size ∧ Kl m w w' := by
  obtain ⟨⟨q0, q1, q2⟩, _⟩ := hq.cells
  obtain ⟨c0, c1, c2⟩ := hw.cells
  have hpt := part_one (w := w) size a n cap l ho.cells hok hlen hs2 hl
  go_enter Tryz.func76, Tryz.ntmps76
  go_upto_region 3 with (first | (go_at_call 100; refine hpt.mono ?_; rintro e w2 ⟨B, rfl, hB2, hb2⟩))
  have hq2 := hq.keep (hb2.block _ hq.lt)
  have hw2 := hw.keep (hb2.block _ hw.lt)
  have hm2 := hm.grow hb2
  have ho2 := ho.grow hb2
  have hBc : w2.cell? ⟨B, 0, none⟩ = some (.slice a n cap) := by simp [World.cell?, hB2]
  obtain ⟨⟨r0, r1, r2⟩, _⟩ := hq2.cells
  have hnb : ∀ W, Below w2.heap.size w2 W → Calls Tryz.prog 99 #[.int .i64 1, .slice a n cap] W fun e w' => ∃ v', e = .returned v' ∧ Own w' W.heap.size v' (nodeB 1 l) ∧ Below W.heap.size W w' := fun W hW => nodeBytes_any 1 (by omega) a n cap l (ho2.grow hW).cells hok (by omega) hl
  obtain ⟨bs, hbs⟩ : ∃ bs, nodeB 1 l = bs := ⟨_, rfl⟩
  rw [hbs] at hnb hlen
  obtain ⟨N, hN⟩ : ∃ N, Hid (N = ps.length) := ⟨_, rfl⟩
  have hla : ∀ W v, WalkAt W p (.iface 26 (.pointer (some ⟨m, 0, none⟩))) size mb → IsMem W m ps most size → Bts W v bs → Calls Tryz.prog 53 #[.pointer (some ⟨p, 0, none⟩), v] W fun e w' => e = .returned (.tuple #[.int .i64 ((N + 1 : Nat) : Int), .int .i64 0]) ∧ IsMem w' m (ps ++ [strOfNums bs]) most size ∧ Kl m W w' := fun W v h1 h2 h3 => by
    have := lay_ok h1 h2 v bs h3 hlen hmo hpl
    rw [← hN.out] at this
    exact this
  replace hla : Hid _ := hla
  have hN3 : N ≤ 1000000 := by rw [hN.out]; exact hpl
  clear q0 q1 q2 c0 c1 c2 hpt
  refine wp_loop_rounds 2 ?_
  rw [rounds_succ]
  go_wp2_with fail
  go_region_held3 (fun W => W.cell? ⟨q, 0, none⟩ = some (.pointer (some ⟨p, 0, none⟩))) (first | go_keep | exact s0 | exact t0) (first
    | (go_at_call 99; refine (hnb _ (by first | exact Below.refl _ _ | exact below_draw _ 1)).mono ?_; rintro e w3 ⟨v3, rfl, ho3, hb3⟩; have hb3' : Below w2.heap.size w2 w3 := Below.trans (by first | exact Below.refl _ _ | exact below_draw _ 1) hb3; have hq3 := hq2.keep (hb3'.block _ hq2.lt); obtain ⟨⟨s0, s1, s2⟩, _⟩ := hq3.cells)
    | (go_at_call 53; refine Calls.mono (hla.out _ _ (hw2.keep (hb3'.block _ hw2.lt)) (hm2.grow hb3') ho3.bts) ?_; rintro e w4 ⟨rfl, hm4, hk4⟩; have hq4 := hq3.kl hk4 (hm2.grow hb3'); obtain ⟨⟨t0, t1, t2⟩, _⟩ := hq4.cells))
  have hm3 := hm2.grow hb3'
  have ho4 := (ho2.grow hb3').kl hk4 hm3
  obtain ⟨L, hL⟩ : ∃ L, Hid (L = l.length) := ⟨_, rfl⟩
  have hke : ∀ W, Below w4.heap.size w4 W → Calls Tryz.prog 85 #[.int .i64 1, .slice a n cap] W fun e w' => e = .returned (.int .i64 (L : Int)) ∧ Below W.heap.size W w' := fun W hW => by
    have := keysOf_any (w := W) 1 a n cap l (ho4.grow hW).cells hl hcn
    rw [show keysL 1 l = L by rw [hL.out]; rfl] at this
    exact this
  obtain ⟨a', c', e4, _, hcs⟩ := ho4.cells
  cases e4
  rcases hcs with h1 | ⟨b, o, rfl, hcs⟩
  · exact absurd h1 h0
  have hl0 : 0 < l.length := List.length_pos_iff.2 h0
  have x0 := (hcs 0 hl0).1
  rw [show o + 0 * 4 = o by omega] at x0
  have hbl := World.block_lt_of_cell? w4 _ x0
  have hkx : ∀ W, Below w4.heap.size w4 W → W.cell? ⟨b, o, none⟩ = some (.string (l.getD 0 cl0).key) := fun W hW => (hW.cell (p := ⟨b, o, none⟩) hbl).trans x0
  generalize hkey : (l.getD 0 cl0).key = key at *
  replace hkey : Hid _ := hkey
  have hss : w2.heap.size ≤ w4.heap.size := Nat.le_trans hb3'.size hk4.size
  clear hcs hnb hla
  go_wp2_with fail
  go_region_law (first
    | (go_simp; go_at_call 85; refine (hke _ (by first | exact Below.refl _ _ | exact below_draw _ 1)).mono ?_; rintro e w5 ⟨rfl, hb5⟩; have hb5' : Below w4.heap.size w4 w5 := Below.trans (by first | exact Below.refl _ _ | exact below_draw _ 1) hb5; have x5 := hkx w5 hb5'; have x6 := hkx (w5.alloc (.cells #[.string key, .string ⟨#[]⟩, .int .i64 ((N : Int) + 1), .int .i64 (L : Int)] 90)) (hb5'.alloc hb5'.size _))
    | (refine stepCel rfl (.tmp 42) (.tmp 52) rfl w5.heap.size w.heap.size ⟨key, ⟨#[]⟩, N + 1, L⟩ rfl rfl (heap_alloc_new w5 _) (by have := hb5'.size; have := hb2.size; simp; omega) ?_; intro v6 w6 ho6 hb6))
  all_goals
    go_wp2_with fail
    rw [rounds_succ]
    go_wp2_with fail
    go_ret2
    have hAA : Below w5.heap.size w5 (w5.alloc (.cells #[.string key, .string ⟨#[]⟩, .int .i64 ((N : Int) + 1), .int .i64 (L : Int)] 90)) := (Below.refl _ w5).alloc (Nat.le_refl _) _
    have hB46 : Below w4.heap.size w4 w6 := hb5'.trans ((hAA.trans (Below.mono hb6 hAA.size)).mono hb5'.size)
    refine ⟨v6, rfl, ?_, ?_, (Kl.of_below hb2).trans ((Kl.of_below hb3').trans (hk4.trans (Kl.of_below hB46)))⟩
    · rw [← hN.out, ← hL.out, hkey.out]; exact ho6
    · rw [hbs]; exact hm4.grow hB46
end
end Go.Proofs.YtdobleekjiehdaaGreat
