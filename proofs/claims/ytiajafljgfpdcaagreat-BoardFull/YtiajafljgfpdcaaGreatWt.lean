/- With. -/
import Derived.Test.YtiajafljgfpdcaaGreatRp
import Derived.Laws.OwnMore
import Derived.Deep.OwnRows
namespace Go.Proofs.YtiajafljgfpdcaaGreat
set_option linter.unusedVariables false
open Go.RowKit
/-- The names of the first k labels, room for the others. -/
def padN (m : List Lb) (k : Nat) : List ByteArray := namesL (m.take k) ++ List.replicate (m.length - k) ⟨#[]⟩
theorem padN_len (m : List Lb) (k : Nat) (hk : k ≤ m.length) : (padN m k).length = m.length := by
  unfold padN; rw [List.length_append, namesL_len, List.length_take, List.length_replicate]; omega
theorem padN_zero (m : List Lb) : padN m 0 = List.replicate m.length ⟨#[]⟩ := by simp [padN, namesL]
theorem padN_full (m : List Lb) : padN m m.length = namesL m := by simp [padN]
theorem padN_set (m : List Lb) (k : Nat) (hk : k < m.length) : (padN m k).set k (m.getD k lb0).name = padN m (k + 1) := by
  unfold padN
  have hl : (namesL (m.take k)).length = k := by rw [namesL_len, List.length_take]; omega
  rw [namesL_take m k hk, List.set_append_right _ _ (by omega), hl, Nat.sub_self, List.append_assoc]
  congr 1
  rw [show m.length - k = (m.length - (k + 1)) + 1 by omega, List.replicate_succ]
  rfl
theorem flatS (l : List ByteArray) : flat encS l = l.map Value.string := by
  induction l with
  | nil => rfl
  | cons a l ih =>
    show encS.arr a ++ flat encS l = _
    rw [ih]; rfl
theorem own_made (w : World) (n : Nat) (hn : n ≤ 1000000) : OwnT (w.alloc (.cells (madeCells #[.string ⟨#[]⟩] n) 9)) w.heap.size (.slice (some ⟨w.heap.size, 0, none⟩) n n) (List.replicate n ⟨#[]⟩) := by
  have h := World.ownsRow_lit w (base := w.heap.size) (e := 9) (size := 1) (madeCells #[.string ⟨#[]⟩] n) n (Nat.le_refl _) (by unfold maxLen; omega) (by rw [size_madeCells]; omega)
  unfold OwnT OwnS
  rw [flatS, List.length_replicate, List.map_replicate, ← toList_madeCells_one]
  exact h
theorem own_cell {w : World} {base g n cap : Nat} {xs : List ByteArray} (h : OwnT w base (.slice (some ⟨g, 0, none⟩) n cap) xs) (hn : n = xs.length) (j : Nat) (hj : j < n) : w.cell? ⟨g, j, none⟩ = some (.string (xs.getD j ⟨#[]⟩)) ∧ w.frozen? ⟨g, j, none⟩ = false := by
  subst hn
  refine ⟨?_, World.ownsRow.frozenAt h j⟩
  have := World.ownsRow.cellAt h j (by have : TS.et = 9 := rfl; show j < _ * 1; omega)
  rw [this, flatS]
  simp [hj]
theorem own_store {w : World} {base g n cap : Nat} {xs : List ByteArray} (h : OwnT w base (.slice (some ⟨g, 0, none⟩) n cap) xs) (hn : n = xs.length) (j : Nat) (x : ByteArray) : OwnT (w.setCell ⟨g, j, none⟩ (.string x)) base (.slice (some ⟨g, 0, none⟩) n cap) (xs.set j x) := by
  subst hn
  have := (World.ownsRow.stored h j (.string x)).1
  unfold OwnT OwnS
  rw [List.length_set, flatS, List.map_set, ← flatS]
  exact this
theorem info9 : (Tryz.prog.info? 9).map (fun i => (i.zero, i.size, i.bytes)) = some (some (.string ⟨#[]⟩), 1, 16) := by kernel_rfl
set_option maxRecDepth 100000 in
set_option maxHeartbeats 2000000 in
theorem with_any (v u : Value) (l m : List Lb) (w : World) (hv : Lbs w v l) (hu : Lbs w u m) (hl : l.length ≤ 10000) (hm : m.length ≤ 10000) (rl : LbsR l) (rm : LbsR m) :
    Calls Tryz.prog 69 #[v, u] w fun e w' => MakeR (withL l m) w e w' := by
  obtain ⟨a2, c2, rfl⟩ := hu.shape
  have hvk : Hid (∀ W, Below w.heap.size w W → Lbs W v l) := fun W h => hv.grow h
  replace hu : Hid (Lbs w (.slice a2 m.length c2) m) := hu
  have hwr : Hid (LbsR (withoutL l (namesL m) ++ m)) := fun x hx => by
    rcases List.mem_append.1 hx with h | h
    · exact rl x (List.mem_filter.1 h).1
    · exact rm x h
  have hwl : (withoutL l (namesL m)).length ≤ l.length := List.length_filter_le _ _
  have hmk := run_make_row' (P := Tryz.prog) 136 9 (.string ⟨#[]⟩) 16 Tryz.underlying136 info9 rfl .i64 .i64 m.length (by omega) (by omega)
  have hb0 : Hid (Below w.heap.size w (w.alloc (.cells (madeCells #[.string ⟨#[]⟩] m.length) 9))) := (Below.refl _ w).alloc (Nat.le_refl _) _
  have ho0 : Hid (OwnT (w.alloc (.cells (madeCells #[.string ⟨#[]⟩] m.length) 9)) w.heap.size (.slice (some ⟨w.heap.size, 0, none⟩) m.length m.length) (padN m 0)) := by
    rw [padN_zero]; exact own_made w m.length (by omega)
  go_enter Tryz.func69, Tryz.ntmps69
  go_wp2
  go_loopw [14] (fun i wr => ∃ k : Nat, k ≤ m.length ∧ i = .int .i64 k ∧ OwnT wr w.heap.size (.slice (some ⟨w.heap.size, 0, none⟩) m.length m.length) (padN m k) ∧ Below w.heap.size w wr) (fun i _ => m.length - (intOf i).toNat)
  case atStart => exact ⟨0, Nat.zero_le _, rfl, ho0.out, hb0.out⟩
  case round =>
    obtain ⟨k, hk, rfl, ho, hB⟩ := hrel
    have hbz := hB.size
    by_cases hlt : k < m.length
    · have hki : (k : Int) < (m.length : Int) := by omega
      obtain ⟨b1, o1, rfl, x0, x1⟩ := lb_at (Sls.grow hu.out hB) k hlt
      have hps := padN_set m k hlt
      have hpl := padN_len m k (by omega)
      generalize m.getD k lb0 = x at *
      obtain ⟨n, y⟩ := x
      simp only at x0 x1 hps
      have hlt0 := (ho.lt w.heap.size rfl).2
      have hB2 := hB.alloc hbz (.cells #[.string n, .string y] 70)
      have ho2 := ho.alloc (.cells #[.string n, .string y] 70)
      obtain ⟨c0, f0⟩ := own_cell ho2 hpl.symm k hlt
      have ho3 := (own_store ho hpl.symm k n).alloc (.cells #[.string n, .string y] 70)
      rw [hps] at ho3
      have hB3 : Below w.heap.size w ((wr.setCell ⟨w.heap.size, k, none⟩ (.string n)).alloc (.cells #[.string n, .string y] 70)) := (hB.setCell (p := ⟨w.heap.size, k, none⟩) (Nat.le_refl _) (.string n)).alloc (by simpa using hbz) _
      clear hps hpl ho ho2
      replace ho3 : Hid _ := ho3
      replace hB3 : Hid _ := hB3
      generalize (padN m k).getD k ⟨#[]⟩ = old at c0
      go_wp2
      refine ⟨⟨k + 1, by omega, by go_num, ho3.out, hB3.out⟩, ?_⟩
      simp [intOf]; omega
    · obtain rfl : k = m.length := by omega
      have hki : ¬ (m.length : Int) < (m.length : Int) := by omega
      rw [padN_full] at ho
      have hwdef : Hid ((withoutL l (namesL m) ++ m).Perm (withL l m)) := List.perm_append_comm
      have hwo := without_any v (.slice (some ⟨w.heap.size, 0, none⟩) m.length m.length) l (namesL m) wr (hvk.out _ hB) ho.sls (by omega) (by rw [namesL_len]; omega)
      have hmk := fun x W (h : Lbs W x (withoutL l (namesL m) ++ m)) => make_any x (withoutL l (namesL m) ++ m) W h hwr.out (by rw [List.length_append]; omega)
      have hu2 : Hid (∀ W, Below wr.heap.size wr W → Lbs W (.slice a2 m.length c2) m) := fun W h => (Sls.grow hu.out hB).grow h
      generalize hNL : namesL m = NL at *
      generalize hWL : withoutL l NL = WL at *
      go_wp2_with (first
        | (go_at_call 100; refine hwo.mono ?_; rintro e w3 ⟨v3, rfl, ho3, hb3⟩; have hB3 := hB.trans (hb3.mono hB.size); have hu3 := hu2.out _ hb3)
        | (at_builtin; refine appR TL rfl (.tmp 27) (.tmp 28) rfl wr.heap.size v3 (.slice a2 m.length c2) WL m rfl rfl ho3 hu3 hb3.size (by omega) ?_; intro v4 w4 ho4 hg4; have hB4 : Below w.heap.size w w4 := hB3.grown hg4 hB3.size (fun q hq => Nat.le_trans hbz (ho3.lt q hq).1))
        | (go_at_call 99; refine (hmk _ _ ho4.sls).mono ?_; rintro e w5 ⟨v5, out, er, rfl, hq5, ho5, hb5⟩))
      go_ret2
      exact ⟨_, out, er, rfl, hq5.perm hwdef.out, OwnS.wide ho5 hB4.size, hB4.trans (hb5.mono hB4.size)⟩
end Go.Proofs.YtiajafljgfpdcaaGreat
