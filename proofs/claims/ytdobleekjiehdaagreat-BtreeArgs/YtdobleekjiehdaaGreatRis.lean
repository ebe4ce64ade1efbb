/- The contracts of keysOf, piece, short, soundValue, rising. -/
import Derived.Test.YtdobleekjiehdaaGreatNdR
import Derived.BigQuiet
namespace Go.Proofs.YtdobleekjiehdaaGreat
set_option linter.unusedVariables false
open Go.RowKit
/-- How many keys lie in a node and below it. -/
def keysL (level : Nat) (l : List Cl) : Nat := if level = 1 then l.length else (l.map Cl.count).sum
section
variable {w : World}
theorem sum_take (l : List Cl) (k : Nat) (h : k < l.length) : ((l.take (k + 1)).map Cl.count).sum = ((l.take k).map Cl.count).sum + (l.getD k cl0).count := by
  rw [List.take_succ_eq_append_getElem h, List.map_append, List.sum_append]
  simp [h]
theorem sum_le (l : List Cl) (h : ∀ c ∈ l, c.count ≤ 2147483647) : (l.map Cl.count).sum ≤ 2147483647 * l.length := by
  induction l with
  | nil => simp
  | cons c r ih =>
    have := ih (fun d hd => h d (List.mem_cons_of_mem _ hd))
    have := h c (List.mem_cons_self ..)
    simp only [List.map_cons, List.sum_cons, List.length_cons]
    omega
set_option maxRecDepth 100000 in
set_option maxHeartbeats 4000000 in
theorem keysOf_any (level : Nat) (a : Option Addr) (n cap : Nat) (l : List Cl) (h : Cells w (.slice a n cap) l) (hl : l.length ≤ 8000000) (hc : ∀ c ∈ l, c.count ≤ 2147483647) :
    Calls Tryz.prog 85 #[.int .i64 level, .slice a n cap] w fun e w' => e = .returned (.int .i64 (keysL level l)) ∧ Below w.heap.size w w' := by
  have hn : n = l.length := by obtain ⟨_, _, e, _⟩ := h; cases e; rfl
  by_cases h1 : level = 1
  · subst h1
    have hk : keysL 1 l = n := by rw [hn]; rfl
    rw [hk]
    clear hn hk
    go_enter Tryz.func85, Tryz.ntmps85
    go_wp2
    go_ret
    exact ⟨rfl, Below.refl _ _⟩
  · have h1e : ((level : Int) == 1) = false := by simp; omega
    have hk : keysL level l = (l.map Cl.count).sum := by unfold keysL; rw [if_neg h1]
    rw [hk]
    have hg : Hid (∀ W, Below w.heap.size w W → Cells W (.slice a n cap) l) := fun W hW => h.grow hW
    have hn3 : n ≤ 8000000 := by rw [hn]; exact hl
    replace hn : Hid _ := hn
    replace hc : Hid _ := hc
    clear h h1 hk
    go_enter Tryz.func85, Tryz.ntmps85
    go_wp2
    go_loopw [5, 14] (fun u i wr => ∃ k z : Nat, k ≤ n ∧ i = .int .i64 k ∧ u = .int .i64 z ∧ Hid (z = ((l.take k).map Cl.count).sum) ∧ z ≤ 2147483647 * k ∧ Below w.heap.size w wr) (fun _ i _ => n - (intOf i).toNat)
    case atStart => exact ⟨0, 0, Nat.zero_le _, rfl, rfl, rfl, by omega, Below.refl _ _⟩
    case round =>
      obtain ⟨k, z, hk, rfl, rfl, hz, hzb, hbw⟩ := hrel
      by_cases hlt : k < n
      · have hki : (k : Int) < (n : Int) := by omega
        have hltl : k < l.length := by rw [← hn.out]; exact hlt
        obtain ⟨a', c', e, _, hcs⟩ := hg.out wr hbw
        cases e
        rcases hcs with hcs | ⟨b, o, rfl, hcs⟩
        · rw [hcs] at hltl; simp at hltl
        · obtain ⟨x0, x1, x2, x3⟩ := hcs k hltl
          have hcc := hc.out _ (getD_map hltl)
          have hst : Hid (z + (l.getD k cl0).count = ((l.take (k + 1)).map Cl.count).sum) := by
            show _ = _
            rw [sum_take l k hltl, ← hz.out]
          generalize l.getD k cl0 = c at x0 x1 x2 x3 hcc hst
          clear hcs
          have hw : IntKind.i64.wrap ((z : Int) + (c.count : Int)) = (z : Int) + (c.count : Int) := Go.IntWalk.i64_in _ (by omega)
          go_wp2
          go_roundw
          case rel => exact ⟨k + 1, z + c.count, by omega, by go_num, by go_num, hst, by omega, hbw.alloc hbw.size _⟩
          case measure => simp [intOf]; omega
      · obtain rfl : k = n := by omega
        have hkd : decide ((k : Int) < (k : Int)) = false := by simp
        have hz2 := hz.out
        rw [List.take_of_length_le (by rw [hn.out]; omega)] at hz2
        replace hz2 : Hid _ := hz2
        go_wp2
        go_ret
        exact ⟨by rw [← hz2.out]; rfl, hbw⟩
/-- A walk in block p. -/
def WalkAt (w : World) (p : Nat) (nv : Value) (room : Nat) (mb : Nat) : Prop := w.heap[p]? = some (.cells #[nv, .int .i64 room, .map (some mb)] 107 (0, 0))
theorem WalkAt.cells {p room mb : Nat} {nv : Value} (h : WalkAt w p nv room mb) : w.cell? ⟨p, 0, none⟩ = some nv ∧ w.cell? ⟨p, 1, none⟩ = some (.int .i64 room) ∧ w.cell? ⟨p, 2, none⟩ = some (.map (some mb)) := by
  unfold WalkAt at h
  refine ⟨?_, ?_, ?_⟩ <;> simp [World.cell?, h]
theorem WalkAt.keep {w' : World} {p room mb : Nat} {nv : Value} (h : WalkAt w p nv room mb) (e : w'.heap[p]? = w.heap[p]?) : WalkAt w' p nv room mb := e.trans h
theorem WalkAt.lt {p room mb : Nat} {nv : Value} (h : WalkAt w p nv room mb) : p < w.heap.size := (Array.getElem?_eq_some_iff.1 h).1
set_option maxRecDepth 100000 in
theorem piece_any {p room mb : Nat} {nv : Value} (h : WalkAt w p nv room mb) (h1 : 480 ≤ room) (h2 : room ≤ 1000000) : Calls Tryz.prog 47 #[.pointer (some ⟨p, 0, none⟩)] w fun e w' => e = .returned (.int .i64 ((room - 8 : Nat) : Int)) ∧ w' = w := by
  obtain ⟨c0, c1, c2⟩ := h.cells
  have hw : IntKind.i64.wrap ((room : Int) - 8) = (room : Int) - 8 := Go.IntWalk.i64_in _ (by omega)
  have e : ((room - 8 : Nat) : Int) = (room : Int) - 8 := by omega
  rw [e]
  go_enter Tryz.func47, Tryz.ntmps47
  go_wp2
  go_ret
  exact ⟨rfl, rfl⟩
/-- How many bytes a value has at most that stands in its cell. -/
def shortOf (room : Nat) : Nat := (room - 8) / 8
set_option maxRecDepth 100000 in
theorem short_any {p room mb : Nat} {nv : Value} (h : WalkAt w p nv room mb) (h1 : 480 ≤ room) (h2 : room ≤ 1000000) : Calls Tryz.prog 51 #[.pointer (some ⟨p, 0, none⟩)] w fun e w' => e = .returned (.int .i64 (shortOf room)) ∧ w' = w := by
  have hp := piece_any h h1 h2
  generalize hr : room - 8 = r at hp
  have e : shortOf room = r / 8 := by unfold shortOf; rw [hr]
  rw [e]
  go_enter Tryz.func51, Tryz.ntmps51
  go_wp2_with (first | (go_at_call 47; refine hp.mono ?_; rintro e w' ⟨rfl, hw'⟩; subst w'))
  go_ret
  exact ⟨by rw [Int.natCast_ediv]; rfl, rfl⟩
/-- The order of keys. -/
def kLt (a b : ByteArray) : Bool := Op.bytesLess a.toList b.toList
/-- Is each key above the one ahead of it, up to the k-th? -/
def risUp (l : List Cl) (k : Nat) : Prop := ∀ j, j + 1 < k → kLt (l.getD j cl0).key (l.getD (j + 1) cl0).key = true
/-- Is each key above the one ahead of it? -/
def risB (l : List Cl) : Bool := (List.range (l.length - 1)).all fun j => kLt (l.getD j cl0).key (l.getD (j + 1) cl0).key
theorem risB_iff (l : List Cl) : risB l = true ↔ risUp l l.length := by
  unfold risB risUp
  rw [List.all_eq_true]
  constructor
  · intro h j hj
    exact h j (List.mem_range.2 (by omega))
  · intro h j hj
    exact h j (by have := List.mem_range.1 hj; omega)
set_option maxRecDepth 100000 in
set_option maxHeartbeats 4000000 in
theorem rising_any (a : Option Addr) (n cap : Nat) (l : List Cl) (h : Cells w (.slice a n cap) l) (hl : l.length ≤ 8000000) :
    Calls Tryz.prog 84 #[.slice a n cap] w fun e w' => e = .returned (.bool (risB l)) ∧ Below w.heap.size w w' := by
  have hn : n = l.length := by obtain ⟨_, _, e, _⟩ := h; cases e; rfl
  by_cases h0 : l.length ≤ 1
  · have hr : risB l = true := (risB_iff l).2 (fun j hj => by omega)
    rw [hr]
    have hn1 : n ≤ 1 := by omega
    clear hn h h0
    go_enter Tryz.func84, Tryz.ntmps84
    go_wp2
    go_loop [3] (fun i => i = .int .i64 1) (fun _ => 0)
    case atStart => rfl
    case round =>
      subst hrel
      have hd : decide ((1 : Int) < (n : Int)) = false := by simp; omega
      go_wp2
      go_ret
      exact ⟨rfl, Below.refl _ _⟩
  obtain ⟨_, _, e, _, hc⟩ := h
  cases e
  rcases hc with h1 | ⟨b, o, rfl, hc⟩
  · rw [h1] at h0; simp at h0
  · obtain ⟨m, hm⟩ : ∃ m, Hid (m = l.length) := ⟨_, rfl⟩
    have hc' : Hid (∀ t, t < m → w.cell? ⟨b, o + t * 4, none⟩ = some (.string (l.getD t cl0).key)) := fun t ht => (hc t (by rw [← hm.out]; exact ht)).1
    obtain ⟨R, hR⟩ : ∃ R, Hid (risB l = R) := ⟨_, rfl⟩
    rw [hR.out, ← hm.out]
    have hm3 : m ≤ 8000000 := by rw [hm.out]; exact hl
    have hm2 : 1 ≤ m := by rw [hm.out]; omega
    clear hc h0 hn hl
    go_enter Tryz.func84, Tryz.ntmps84
    go_wp2
    go_loopw [3] (fun i wr => ∃ k : Nat, 1 ≤ k ∧ k ≤ m ∧ i = .int .i64 k ∧ Below w.heap.size w wr ∧ Hid (risUp l k)) (fun i _ => m - (intOf i).toNat)
    case atStart => exact ⟨1, Nat.le_refl _, hm2, rfl, Below.refl _ _, (fun j hj => by omega)⟩
    case round =>
      obtain ⟨k, hk1, hk, rfl, hbw, hris⟩ := hrel
      by_cases hlt : k < m
      · obtain ⟨j, rfl⟩ : ∃ j, k = j + 1 := ⟨k - 1, by omega⟩
        have hki : ((j + 1 : Nat) : Int) < (m : Int) := by omega
        have q1 := hc'.out j (by omega)
        have q2 := hc'.out (j + 1) (by omega)
        replace q1 := (hbw.cell (p := ⟨b, o + j * 4, none⟩) (World.block_lt_of_cell? w _ q1)).trans q1
        replace q2 := (hbw.cell (p := ⟨b, o + (j + 1) * 4, none⟩) (World.block_lt_of_cell? w _ q2)).trans q2
        have hkl : Hid (∀ b, Op.bytesLess (l.getD j cl0).key.toList (l.getD (j + 1) cl0).key.toList = b → kLt (l.getD j cl0).key (l.getD (j + 1) cl0).key = b) := fun b h => h
        generalize hK1 : (l.getD j cl0).key = K1 at q1 hkl
        generalize hK2 : (l.getD (j + 1) cl0).key = K2 at q2 hkl
        replace hK1 : Hid _ := hK1
        replace hK2 : Hid _ := hK2
        have hji : ((j + 1 : Nat) : Int) - 1 = (j : Int) := by omega
        have hjl : j < m := by omega
        cases hcmp : Op.bytesLess K1.toList K2.toList with
        | true =>
          have hkt := hkl.out true hcmp
          replace hkt : Hid _ := hkt
          go_wp2
          go_quiet (fail)
          go_wp2
          refine ⟨⟨j + 1 + 1, by omega, by omega, by go_num, below_drewN hbw _, ?_⟩, ?_⟩
          · show risUp _ _
            intro i hi
            by_cases hij : i = j
            · subst hij
              rw [hK1.out, hK2.out]
              exact hkt.out
            · exact hris.out i (by omega)
          · simp [intOf]; omega
        | false =>
          have hkt := hkl.out false hcmp
          have hRf : Hid (R = false) := by
            show _ = _
            rw [← hR.out]
            cases hb : risB l with
            | false => rfl
            | true =>
              have := (risB_iff l).1 hb j (by have := hm.out; omega)
              rw [hK1.out, hK2.out, hkt] at this
              cases this
          go_wp2
          go_quiet (fail)
          go_wp2
          go_ret
          exact ⟨by rw [hRf.out]; rfl, below_drewN hbw _⟩
      · obtain rfl : k = m := by omega
        have hkd : decide ((k : Int) < (k : Int)) = false := by simp
        have hRt : Hid (R = true) := by
          show _ = _
          rw [← hR.out]
          exact (risB_iff l).2 (by rw [← hm.out]; exact hris.out)
        go_wp2
        go_ret
        exact ⟨by rw [hRt.out]; rfl, hbw⟩
end
end Go.Proofs.YtdobleekjiehdaaGreat
