/- The contracts of layValue (a short value), slices.Grow of nil, slices.Concat. -/
import Derived.Test.YtdobleekjiehdaaGreatGet
import Derived.Laws.AppendOwnNone
import Derived.Lib.AppendZeros
namespace Go.Proofs.YtdobleekjiehdaaGreat
set_option linter.unusedVariables false
open Go.RowKit
theorem flat_oneCell (l : List Cl) : ∀ u ∈ flat l, u.oneCell' = true := by
  intro u hu
  unfold flat at hu
  obtain ⟨x, hx, hux⟩ := List.mem_flatten.1 hu
  obtain ⟨c, _, rfl⟩ := List.mem_map.1 hx
  simp [Cl.arr] at hux
  rcases hux with rfl | rfl | rfl | rfl <;> rfl
/-- append(s, x...), x a slice of cells. -/
theorem appCs {w : World} {ops : Array Oper} {rest : List Oper} {o : Oper} {a : Act} {Q : Exit → Act → World → Prop} (hgd : o.guard = none) (s x : Operand)
    (ho : o.op = .call { callee := .builtin .append, args := #[s, x], argTypes := #[100, 100] })
    (base : Nat) (v u : Value) (l l2 : List Cl) (hs : a.eval s = v) (hx : a.eval x = u)
    (hown : OwnC w base v l) (hb : Cells w u l2) (hbase : base ≤ w.heap.size) (hlen : l.length + l2.length ≤ 1000000000)
    (h : ∀ v' w', OwnC w' base v' (l ++ l2) → Below base w w' → wpList Tryz.prog ops Q rest (a.put o.dst v') w') :
    wpList Tryz.prog ops Q (o :: rest) a w := by
  obtain ⟨i0, hi, hz0, hz1, hz2⟩ := info_parts info90
  obtain ⟨ad, c, rfl, hnil, hcell⟩ := hb
  cases ad with
  | none =>
    have hbs : l2 = [] := by
      rcases hcell with hcell | ⟨_, _, e, _⟩
      · exact hcell
      · cases e
    subst hbs
    obtain rfl := hnil.1 rfl
    refine wpList_append_own_none hgd s x 100 ho base 90 i0 4 Tryz.underlying100 hi v l.length (flat l) hs hown hx ?_
    exact h v w (hown.cast (by simp)) (Below.refl _ _)
  | some ad =>
    refine wpList_append_own _ hgd s x 100 ho base 90 i0 _ 4 48 Tryz.underlying100 hi hz0 hz1 hz2 rfl (by decide) v l.length (flat l) hs hown ad l2.length c (flat l2) hx (flat_len l2) ?_ (flat_oneCell l2) (by unfold maxLen; omega) (by omega) hbase ?_
    · intro j y hj
      have hjl : j < l2.length * 4 := by
        rw [← flat_len l2]
        rcases Nat.lt_or_ge j (flat l2).length with h | h
        · exact h
        · rw [List.getElem?_eq_none h] at hj; cases hj
      rcases hcell with rfl | ⟨b, o, e, hr⟩
      · simp at hjl
      · cases e
        have hd : j / 4 < l2.length := by omega
        have hm : j % 4 < 4 := Nat.mod_lt _ (by omega)
        have hjj : j = j / 4 * 4 + j % 4 := by omega
        rw [hjj, flat_get l2 (j / 4) (j % 4) hd hm] at hj
        obtain ⟨c0, c1, c2, c3⟩ := hr (j / 4) hd
        rw [add_at, hjj, show o + (j / 4 * 4 + j % 4) = o + j / 4 * 4 + j % 4 by omega]
        have h4 : j % 4 = 0 ∨ j % 4 = 1 ∨ j % 4 = 2 ∨ j % 4 = 3 := by omega
        rcases h4 with e4 | e4 | e4 | e4 <;> rw [e4] at hj ⊢ <;> simp [Cl.arr] at hj <;> subst hj <;> assumption
    · intro v' w' h1 h2 h3
      refine h v' w' ?_ ((Below.refl base w).grown h2 hbase (fun k hk => (hown.lt k hk).1))
      unfold OwnC
      rw [flat_app, List.length_append]
      exact h1
/-- A slice of lists of cells. -/
def Cls (w : World) (v : Value) (ls : List (List Cl)) : Prop := ∃ b o c, v = .slice (some ⟨b, o, none⟩) ls.length c ∧ ∀ t, t < ls.length → ∃ u, w.cell? ⟨b, o + t, none⟩ = some u ∧ Cells w u (ls.getD t [])
section
variable {w : World} {m most size : Nat} {ps : List ByteArray}
set_option maxRecDepth 100000 in
set_option maxHeartbeats 2000000 in
theorem layValue_short {p room mb : Nat} {nv : Value} (h : WalkAt w p nv room mb) (h1 : 480 ≤ room) (h2 : room ≤ 1000000) (k v : ByteArray) (hv : v.size ≤ shortOf room) :
    Calls Tryz.prog 40 #[.pointer (some ⟨p, 0, none⟩), .string k, .string v] w fun e w' => e = .returned (.tuple #[.agg #[.string k, .string v, .int .i64 0, .int .i64 0], .int .i64 0]) ∧ Below w.heap.size w w' := by
  have hB : Below w.heap.size w (w.alloc (.cells #[.string ⟨#[]⟩, .string ⟨#[]⟩, .int .i64 0, .int .i64 0] 90)) := (Below.refl _ w).alloc (Nat.le_refl _) _
  have hsh := short_any (h.keep (hB.block _ h.lt)) h1 h2
  have hvd : decide ((v.size : Int) ≤ (shortOf room : Int)) = true := by simp; omega
  generalize shortOf room = sh at *
  go_enter Tryz.func40, Tryz.ntmps40
  go_wp2_with (first | (go_at_call 51; refine hsh.mono ?_; rintro e wA ⟨rfl, hwA⟩; subst wA))
  refine bodyPost_ret (v := .tuple #[.agg #[.string k, .string v, .int .i64 0, .int .i64 0], .int .i64 0]) ?_ rfl ⟨rfl, ?_⟩
  · rw [results_cell_tmp rfl]; simp [asAddr, Result.andThen, go_sem]
  · exact (Below.refl _ w).alloc (Nat.le_refl _) _
set_option maxRecDepth 100000 in
set_option maxHeartbeats 2000000 in
theorem grow_nil (n : Nat) (hn : n ≤ 100000000) : Calls Tryz.prog 66 #[.slice none 0 0, .int .i64 n] w fun e w' => ∃ v, e = .returned v ∧ OwnC w' w.heap.size v [] ∧ Below w.heap.size w w' := by
  by_cases h0 : n = 0
  · subst h0
    go_enter Tryz.func66, Tryz.ntmps66
    go_wp2_with fail
    go_ret
    exact ⟨_, rfl, World.ownsRow_nil _ _ _ _, Below.refl _ _⟩
  · have d1 : decide ((n : Int) < 0) = false := by simp
    have d2 : (0 : Int) < (n : Int) := by omega
    obtain ⟨i0, hi, hz0, hz1, hz2⟩ := info_parts info90
    have hr := Lib.run_append_nil_zeros (P := Tryz.prog) w 100 3 100 90 i0 _ .i64 .i64 Tryz.underlying100 Tryz.underlying3 hi hz0 n (by omega) (by omega) (by omega) (by rw [hz2]; omega)
    have hcap := grownCap_ge w n 0 90
    have hcm := grownCap_le_maxLen w n 0 90 (by unfold maxLen; omega)
    generalize grownCap w n 0 90 = cap at *
    have ho := World.ownsRow_made (base := w.heap.size) (e := 90) (size := 4) w.drew (Builtin.zeroCells (Value.agg #[.string ⟨#[]⟩, .string ⟨#[]⟩, .int .i64 0, .int .i64 0]).cells n ++ Builtin.zeroCells (Value.agg #[.string ⟨#[]⟩, .string ⟨#[]⟩, .int .i64 0, .int .i64 0]).cells (cap - n)) cap (Nat.le_refl _) hcm (by rw [Array.size_append, size_zeroCells, size_zeroCells]; simp [Value.cells]; omega)
    go_enter Tryz.func66, Tryz.ntmps66
    go_wp2_with (first | (at_builtin; refine Lib.wpList_append_run _ rfl _ _ 100 3 rfl (.slice none 0 0) (.int .i64 (n : Int)) rfl rfl _ _ hr ?_))
    go_ret
    exact ⟨_, rfl, ho, ((Below.refl _ w).drew).alloc (Nat.le_refl _) _⟩
theorem Cls.keep {W : World} {v : Value} {ls : List (List Cl)} (h : Cls w v ls) (hb : Below w.heap.size w W) : Cls W v ls := by
  obtain ⟨b, o, c, e, h⟩ := h
  refine ⟨b, o, c, e, fun t ht => ?_⟩
  obtain ⟨u, h1, h2⟩ := h t ht
  exact ⟨u, (hb.cell (p := ⟨b, o + t, none⟩) (World.block_lt_of_cell? w _ h1)).trans h1, h2.grow hb⟩
def totL (ls : List (List Cl)) : Nat := (ls.map List.length).sum
theorem totL_take (ls : List (List Cl)) (k : Nat) (h : k < ls.length) : totL (ls.take (k + 1)) = totL (ls.take k) + (ls.getD k []).length := by
  unfold totL
  rw [List.take_succ_eq_append_getElem h, List.map_append, List.sum_append]
  simp [h]
theorem totL_le (ls : List (List Cl)) (k : Nat) : totL (ls.take k) ≤ totL ls := by
  unfold totL
  have h : (ls.map List.length).sum = ((ls.take k).map List.length).sum + ((ls.drop k).map List.length).sum := by
    rw [← List.sum_append, ← List.map_append, List.take_append_drop]
  omega
theorem flatten_take (ls : List (List Cl)) (k : Nat) (h : k < ls.length) : (ls.take (k + 1)).flatten = (ls.take k).flatten ++ ls.getD k [] := by
  rw [List.take_succ_eq_append_getElem h, List.flatten_append]
  simp [h]
theorem flatten_len (ls : List (List Cl)) : ls.flatten.length = totL ls := by unfold totL; rw [List.length_flatten]
set_option maxRecDepth 100000 in
set_option maxHeartbeats 4000000 in
theorem concat_any (v : Value) (ls : List (List Cl)) (h : Cls w v ls) (hl : ls.length ≤ 1000) (ht : totL ls ≤ 100000000) :
    Calls Tryz.prog 55 #[v] w fun e w' => ∃ v', e = .returned v' ∧ OwnC w' w.heap.size v' ls.flatten ∧ Below w.heap.size w w' := by
  obtain ⟨b, o, c, rfl, hcs⟩ := h
  obtain ⟨n, hn⟩ : ∃ n, Hid (n = ls.length) := ⟨_, rfl⟩
  rw [← hn.out]
  have hn3 : n ≤ 1000 := by rw [hn.out]; exact hl
  have hg : Hid (∀ W, Below w.heap.size w W → ∀ t, t < n → ∃ u, W.cell? ⟨b, o + t, none⟩ = some u ∧ Cells W u (ls.getD t [])) := by
    show ∀ W, _ → _
    intro W hW t htn
    obtain ⟨u, h1, h2⟩ := hcs t (by rw [← hn.out]; exact htn)
    exact ⟨u, (hW.cell (p := ⟨b, o + t, none⟩) (World.block_lt_of_cell? w _ h1)).trans h1, h2.grow hW⟩
  obtain ⟨T, hT⟩ : ∃ T, Hid (T = totL ls) := ⟨_, rfl⟩
  have hT3 : T ≤ 100000000 := by rw [hT.out]; exact ht
  have htk : Hid (∀ k, totL (ls.take k) ≤ T) := fun k => by rw [hT.out]; exact totL_le ls k
  clear hcs ht
  go_enter Tryz.func55, Tryz.ntmps55
  go_wp2_with fail
  go_loopw [3, 11] (fun z i wr => ∃ k s : Nat, k ≤ n ∧ i = .int .i64 k ∧ z = .int .i64 s ∧ Hid (s = totL (ls.take k)) ∧ w = wr) (fun _ i _ => n - (intOf i).toNat)
  case atStart => exact ⟨0, 0, Nat.zero_le _, rfl, rfl, rfl, rfl⟩
  case round =>
    obtain ⟨k, s, hk, rfl, rfl, hs, rfl⟩ := hrel
    by_cases hlt : k < n
    · have hki : (k : Int) < (n : Int) := by omega
      obtain ⟨u, hu, hc⟩ := hg.out w (Below.refl _ _) k hlt
      have hst : Hid (s + (ls.getD k []).length = totL (ls.take (k + 1))) := by
        show _ = _
        rw [totL_take ls k (by rw [← hn.out]; exact hlt), ← hs.out]
      have hsT := htk.out (k + 1)
      obtain ⟨au, cu, eu, _⟩ := hc
      rw [← hst.out] at hsT
      generalize (ls.getD k []).length = q at *
      subst eu
      have hw1 : IntKind.i64.wrap ((s : Int) + (q : Int)) = (s : Int) + (q : Int) := Go.IntWalk.i64_in _ (by omega)
      have hw2 : decide ((s : Int) + (q : Int) < 0) = false := by simp; omega
      go_wp2_with fail
      refine ⟨⟨k + 1, s + q, by omega, by go_num, by go_num, hst, trivial⟩, ?_⟩
      simp [intOf]; omega
    · obtain rfl : k = n := by omega
      have hkd : decide ((k : Int) < (k : Int)) = false := by simp
      have hs2 := hs.out
      rw [List.take_of_length_le (by rw [hn.out]; omega)] at hs2
      have hsT := htk.out k
      rw [← hs.out] at hsT
      replace hs2 : Hid _ := hs2
      have hgr := grow_nil (w := w) s (by omega)
      go_wp2_with (first | (go_at_call 66; refine hgr.mono ?_; rintro e w1 ⟨v1, rfl, ho1, hb1⟩))
      go_loopw [6, 27] (fun u i wr => ∃ j : Nat, j ≤ k ∧ i = .int .i64 j ∧ OwnC wr w.heap.size u (ls.take j).flatten ∧ Below w.heap.size w wr) (fun _ i _ => k - (intOf i).toNat)
      case atStart => exact ⟨0, Nat.zero_le _, rfl, ho1, hb1⟩
      case round =>
        clear ho1 hb1 hgr
        obtain ⟨j, hj, rfl, hoj, hbj⟩ := hrel
        by_cases hlt2 : j < k
        · have hji : (j : Int) < (k : Int) := by omega
          obtain ⟨u, hu, hc⟩ := hg.out wr hbj j hlt2
          have hft : Hid ((ls.take (j + 1)).flatten = (ls.take j).flatten ++ ls.getD j []) := flatten_take ls j (by rw [← hn.out]; exact hlt2)
          have hlen : (ls.take j).flatten.length + (ls.getD j []).length ≤ 1000000000 := by
            have h1 := htk.out (j + 1)
            rw [totL_take ls j (by rw [← hn.out]; exact hlt2), ← flatten_len] at h1
            omega
          have hsz := hbj.size
          generalize ls.getD j [] = l2 at *
          generalize (ls.take j).flatten = l1 at *
          obtain ⟨au, cu, rfl⟩ : ∃ a c, u = .slice a l2.length c := by obtain ⟨a, c, e, _⟩ := hc; exact ⟨a, c, e⟩
          go_wp2_with (first | (at_builtin; refine appCs rfl (.tmp 31) (.tmp 32) rfl w.heap.size _ _ l1 l2 rfl rfl hoj hc hsz hlen ?_; intro v2 w2 ho2 hb2))
          refine ⟨⟨j + 1, by omega, by go_num, by rw [hft.out]; exact ho2, hbj.trans hb2⟩, ?_⟩
          simp [intOf]; omega
        · obtain rfl : j = k := by omega
          have hjd : decide ((j : Int) < (j : Int)) = false := by simp
          rw [List.take_of_length_le (by rw [hn.out]; omega)] at hoj
          go_wp2_with fail
          go_ret
          exact ⟨_, rfl, hoj, hbj⟩
end
end Go.Proofs.YtdobleekjiehdaaGreat
