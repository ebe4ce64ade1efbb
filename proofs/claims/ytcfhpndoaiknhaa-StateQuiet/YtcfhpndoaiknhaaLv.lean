/- right, live. -/
import Derived.Test.YtcfhpndoaiknhaaQt
import Derived.Test.YtcfhpndoaiknhaaRk
import Derived.Test.YtcfhpndoaiknhaaRs
import Derived.Test.YtcfhpndoaiknhaaMa
namespace Go.Proofs.Ytcfhpndoaiknhaa
set_option linter.unusedVariables false
open Go.RowKit
/-- A hold and a time that are asked of. -/
def rB (h : Hd) (now : Int) : Bool := decide ((0 ≤ now ∧ now ≤ 1099511627776) ∧ (0 ≤ h.fo ∧ h.fo ≤ 1000000) ∧ 0 ≤ h.keep ∧ h.keep ≤ 1000000)
set_option maxRecDepth 100000 in
set_option maxHeartbeats 1000000 in
theorem right8 (h : Hd) (now : Int) (w : World) : Calls Try.prog 8 #[encH h, .int .i64 now] w fun e w' => e = .returned (.bool (rB h now)) ∧ Below w.heap.size w w' := by
  obtain ⟨fo, keep, nd, oe⟩ := h
  unfold encH
  obtain ⟨R, hR⟩ : ∃ R, Hid (R = rB ⟨fo, keep, nd, oe⟩ now) := ⟨_, rfl⟩
  rw [← hR.out]
  have hR2 : Hid (R = decide ((0 ≤ now ∧ now ≤ 1099511627776) ∧ (0 ≤ fo ∧ fo ≤ 1000000) ∧ 0 ≤ keep ∧ keep ≤ 1000000)) := hR.out
  clear hR
  have hB : Hid (∀ o, Below w.heap.size w (w.alloc o)) := fun o => bW0 w o
  simp only
  go_enter Try.func8, Try.ntmps8
  go_wp2
  all_goals
    go_ret
    refine ⟨?_, hB.out _⟩
    rw [hR2.out]
    refine ret_bool ?_
    simp_all
    try first | rfl | omega
/-- What lies in a block. -/
def Blk (w : World) (g : Nat) (o : Obj) : Prop := w.heap[g]? = some o
theorem Blk.lt {w : World} {g : Nat} {o : Obj} (h : Blk w g o) : g < w.heap.size := (Array.getElem?_eq_some_iff.1 h).1
theorem Blk.grow {w w' : World} {g : Nat} {o : Obj} (h : Blk w g o) (hb : Below w.heap.size w w') : Blk w' g o := (hb.block g h.lt).trans h
theorem Blk.other {w : World} {g x i : Nat} {u : Value} {o : Obj} (h : Blk w g o) (hg : x ≠ g) : Blk (w.setCell ⟨x, i, none⟩ u) g o := (heap_setCell hg).trans h
theorem Blk.set7 {w : World} {g x : Nat} {i : Inst} {o : Obj} (h : Blk w g o) (hg : x ≠ g) : Blk (set7 w x i) g o :=
  ((((((h.other hg).other hg).other hg).other hg).other hg).other hg).other hg
def lh : Hd := ⟨10, 5, 1, 1⟩
def lat : List Int := [0, 5, 10, 12, 16, 17]
def lre : List Int := [2, 2, 2, 1, 1, 1]
def lwa : List Int := [2, 2, 3, 3, 3, 1]
def liveX : Nat → Inst
  | 0 => newI 0
  | k + 1 => stepI (liveX k) lh (lre.getD k 0) 1 1 (lat.getD k 0)
abbrev oAt : Obj := .cells #[.int .i64 0, .int .i64 5, .int .i64 10, .int .i64 12, .int .i64 16, .int .i64 17] 2
abbrev oRe : Obj := .cells #[.int .i64 2, .int .i64 2, .int .i64 2, .int .i64 1, .int .i64 1, .int .i64 1] 3
abbrev oWa : Obj := .cells #[.int .i64 2, .int .i64 2, .int .i64 3, .int .i64 3, .int .i64 3, .int .i64 1] 3
theorem six {k : Nat} (h : k < 6) : k = 0 ∨ k = 1 ∨ k = 2 ∨ k = 3 ∨ k = 4 ∨ k = 5 := by omega
theorem at_cell {w : World} {g k : Nat} (h : Blk w g oAt) (hk : k < 6) : w.cell? ⟨g, k, none⟩ = some (.int .i64 (lat.getD k 0)) := by
  unfold Blk at h
  rcases six hk with rfl | rfl | rfl | rfl | rfl | rfl <;> simp [World.cell?, h, lat]
theorem re_cell {w : World} {g k : Nat} (h : Blk w g oRe) (hk : k < 6) : w.cell? ⟨g, k, none⟩ = some (.int .i64 (lre.getD k 0)) := by
  unfold Blk at h
  rcases six hk with rfl | rfl | rfl | rfl | rfl | rfl <;> simp [World.cell?, h, lre]
theorem wa_cell {w : World} {g k : Nat} (h : Blk w g oWa) (hk : k < 6) : w.cell? ⟨g, k, none⟩ = some (.int .i64 (lwa.getD k 0)) := by
  unfold Blk at h
  rcases six hk with rfl | rfl | rfl | rfl | rfl | rfl <;> simp [World.cell?, h, lwa]
theorem chain4 (w : World) (a b c d : Obj) : Blk ((((w.alloc a).alloc b).alloc c).alloc d) (w.heap.size + 1) b ∧ Blk ((((w.alloc a).alloc b).alloc c).alloc d) (w.heap.size + 1 + 1) c ∧ Blk ((((w.alloc a).alloc b).alloc c).alloc d) (w.heap.size + 1 + 1 + 1) d := by
  have h1 : Blk ((w.alloc a).alloc b) (w.heap.size + 1) b := by have := heap_new (w.alloc a) b; rwa [World.size_alloc] at this
  have h2 : Blk (((w.alloc a).alloc b).alloc c) (w.heap.size + 1 + 1) c := by have := heap_new ((w.alloc a).alloc b) c; rwa [World.size_alloc, World.size_alloc] at this
  have h3 : Blk ((((w.alloc a).alloc b).alloc c).alloc d) (w.heap.size + 1 + 1 + 1) d := by have := heap_new (((w.alloc a).alloc b).alloc c) d; rwa [World.size_alloc, World.size_alloc, World.size_alloc] at this
  exact ⟨(h1.grow (bW0 _ _)).grow (bW0 _ _), h2.grow (bW0 _ _), h3⟩
theorem live_st : ∀ k, k < 6 → (liveX (k + 1)).st = lwa.getD k 0 ∧ chE (liveX (k + 1)) = 0 := by
  intro k hk
  rcases six hk with rfl | rfl | rfl | rfl | rfl | rfl <;> decide +kernel
theorem live_inv : ∀ k, k < 7 → Inv (liveX k) (lat.getD (k - 1) 0) := by
  intro k
  induction k with
  | zero => intro _; unfold Inv; decide
  | succ k ih =>
    intro hk
    exact (ih (by omega)).step (now := lat.getD k 0) (by rcases six (by omega : k < 6) with rfl | rfl | rfl | rfl | rfl | rfl <;> decide) lh _ 1 1
theorem lat_in : ∀ k, k < 6 → lat.getD (k - 1) 0 ≤ lat.getD k 0 ∧ lat.getD k 0 ≤ 1099511627776 := by
  intro k hk
  rcases six hk with rfl | rfl | rfl | rfl | rfl | rfl <;> decide
/-- What stands between two rounds. -/
def LvI (w wr : World) (g k : Nat) : Prop := IAt wr g (liveX k) ∧ Blk wr w.heap.size (.cells #[.int .i64 10, .int .i64 5, .int .i64 1, .int .i64 1] 27) ∧ Blk wr (g + 1) oAt ∧ Blk wr (g + 1 + 1) oRe ∧ Blk wr (g + 1 + 1 + 1) oWa ∧ Below w.heap.size w wr ∧ w.heap.size < g
theorem h_cell {w : World} {g : Nat} (h : Blk w g (.cells #[.int .i64 10, .int .i64 5, .int .i64 1, .int .i64 1] 27)) : w.cell? ⟨g, 0, none⟩ = some (.int .i64 10) ∧ w.cell? ⟨g, 1, none⟩ = some (.int .i64 5) ∧ w.cell? ⟨g, 2, none⟩ = some (.int .i64 1) ∧ w.cell? ⟨g, 3, none⟩ = some (.int .i64 1) := by
  unfold Blk at h
  simp [World.cell?, h]
theorem cell7 {W : World} {g b i : Nat} {y : Inst} {v : Value} (h : W.cell? ⟨b, i, none⟩ = some v) (hb : g ≠ b) : (set7 W g y).cell? ⟨b, i, none⟩ = some v := by
  have e : (set7 W g y).heap[b]? = W.heap[b]? := by
    unfold set7
    rw [heap_setCell hb, heap_setCell hb, heap_setCell hb, heap_setCell hb, heap_setCell hb, heap_setCell hb, heap_setCell hb]
  simp only [World.cell?, e] at h ⊢
  exact h
theorem sfacts {W wr : World} {g0 g k : Nat} {at0 re0 : Int} (hh : Hid (Blk wr g0 (.cells #[.int .i64 10, .int .i64 5, .int .i64 1, .int .i64 1] 27))) (ha : Hid (Blk wr (g + 1) oAt)) (hr : Hid (Blk wr (g + 1 + 1) oRe)) (hk : k < 6) (h1 : Hid (lat.getD k 0 = at0)) (h2 : Hid (lre.getD k 0 = re0)) (hB : Hid (Below wr.heap.size wr W)) :
    W.cell? ⟨g0, 0, none⟩ = some (.int .i64 10) ∧ W.cell? ⟨g0, 1, none⟩ = some (.int .i64 5) ∧ W.cell? ⟨g0, 2, none⟩ = some (.int .i64 1) ∧ W.cell? ⟨g0, 3, none⟩ = some (.int .i64 1) ∧ W.cell? ⟨g + 1, k, none⟩ = some (.int .i64 at0) ∧ W.cell? ⟨g + 1 + 1, k, none⟩ = some (.int .i64 re0) := by
  obtain ⟨s0, s1, s2, s3⟩ := h_cell (hh.out.grow hB.out)
  have s4 := at_cell (ha.out.grow hB.out) hk
  have s5 := re_cell (hr.out.grow hB.out) hk
  rw [h1.out] at s4
  rw [h2.out] at s5
  exact ⟨s0, s1, s2, s3, s4, s5⟩
theorem sfacts7 {W : World} {y : Inst} {g0 g k : Nat} {at0 re0 : Int} (hg : g0 < g) (h : W.cell? ⟨g0, 0, none⟩ = some (.int .i64 10) ∧ W.cell? ⟨g0, 1, none⟩ = some (.int .i64 5) ∧ W.cell? ⟨g0, 2, none⟩ = some (.int .i64 1) ∧ W.cell? ⟨g0, 3, none⟩ = some (.int .i64 1) ∧ W.cell? ⟨g + 1, k, none⟩ = some (.int .i64 at0) ∧ W.cell? ⟨g + 1 + 1, k, none⟩ = some (.int .i64 re0)) : (set7 W g y).cell? ⟨g0, 0, none⟩ = some (.int .i64 10) ∧ (set7 W g y).cell? ⟨g0, 1, none⟩ = some (.int .i64 5) ∧ (set7 W g y).cell? ⟨g0, 2, none⟩ = some (.int .i64 1) ∧ (set7 W g y).cell? ⟨g0, 3, none⟩ = some (.int .i64 1) ∧ (set7 W g y).cell? ⟨g + 1, k, none⟩ = some (.int .i64 at0) ∧ (set7 W g y).cell? ⟨g + 1 + 1, k, none⟩ = some (.int .i64 re0) :=
  ⟨cell7 h.1 (by omega), cell7 h.2.1 (by omega), cell7 h.2.2.1 (by omega), cell7 h.2.2.2.1 (by omega), cell7 h.2.2.2.2.1 (by omega), cell7 h.2.2.2.2.2 (by omega)⟩
set_option maxRecDepth 100000 in
set_option maxHeartbeats 4000000 in
theorem live9 (w : World) : Calls Try.prog 9 #[] w fun e w' => e = .returned (.bool true) ∧ Below w.heap.size w w' := by
  have hnew : Hid (∀ W, Calls Try.prog 13 #[.int .i64 0] W fun e w' => e = .returned (.agg #[.int .i64 1, .int .i64 0, .int .i64 (-1), .int .i64 (-1), .int .i64 0, .int .i64 2, .int .i64 0]) ∧ Below W.heap.size W w') := fun W => new13 0 W
  have hnum : Hid (∀ W, Calls Try.prog 20 #[.int .i64 1] W fun e w' => e = .returned (.agg #[.int .i64 1, .int .i64 1]) ∧ Below W.heap.size W w') := fun W => rnum20 1 W (by decide) (by decide)
  have hbw : Hid (Below w.heap.size w (w.alloc (.cells #[.int .i64 10, .int .i64 5, .int .i64 1, .int .i64 1] 27)) ∧ Blk (w.alloc (.cells #[.int .i64 10, .int .i64 5, .int .i64 1, .int .i64 1] 27)) w.heap.size (.cells #[.int .i64 10, .int .i64 5, .int .i64 1, .int .i64 1] 27)) := ⟨bW0 w _, heap_new w _⟩
  go_enter Try.func9, Try.ntmps9
  go_wp2_with (first
    | (go_at_call 13; refine (hnew.out _).mono ?_; rintro e w1 ⟨rfl, hb1⟩))
  replace hb1 : Hid (Below (w.heap.size + 1) (w.alloc (.cells #[.int .i64 10, .int .i64 5, .int .i64 1, .int .i64 1] 27)) w1) := by have := hb1; rw [World.size_alloc] at this; exact this
  have hlt : w.heap.size < w1.heap.size := by have := hb1.out.size; rw [World.size_alloc] at this; omega
  go_loopw [6] (fun i wr => ∃ k : Nat, k ≤ 6 ∧ i = .int .i64 k ∧ Hid (LvI w wr w1.heap.size k)) (fun i _ => 6 - (intOf i).toNat)
  case atStart =>
    refine ⟨0, by decide, rfl, ?_⟩
    have h4 := chain4 w1 (.cells #[.int .i64 1, .int .i64 0, .int .i64 (-1), .int .i64 (-1), .int .i64 0, .int .i64 2, .int .i64 0] 25) oAt oRe oWa
    have hI : IAt (w1.alloc (.cells #[.int .i64 1, .int .i64 0, .int .i64 (-1), .int .i64 (-1), .int .i64 0, .int .i64 2, .int .i64 0] 25)) w1.heap.size (liveX 0) := iNew w1 (newI 0)
    refine ⟨((hI.alloc _).alloc _).alloc _, ?_, h4.1, h4.2.1, h4.2.2, ?_, hlt⟩
    · refine ((((Blk.grow (w := w1) ?_ (bW0 _ _)).grow (bW0 _ _)).grow (bW0 _ _)).grow (bW0 _ _))
      exact hbw.out.2.grow (by rw [World.size_alloc]; exact hb1.out)
    · have hbb : Below w.heap.size w w1 := hbw.out.1.trans (hb1.out.mono (by omega))
      exact (((hbb.alloc hbb.size _).alloc (by simp; omega) _).alloc (by simp; omega) _).alloc (by simp; omega) _
  case round =>
    obtain ⟨k, hk, rfl, hI⟩ := hrel
    clear hbw hb1 hnew
    generalize w1.heap.size = g at *
    by_cases hlt6 : k < 6
    · have hki : (k : Int) < 6 := by omega
      obtain ⟨hx, hh, ha, hr, hw, hB, hg⟩ := hI.out
      obtain ⟨hs1, hs2⟩ := live_st k hlt6
      have hstep : Hid (∀ W, Calls Try.prog 17 #[encI (liveX k), encH lh, .int .i64 (lre.getD k 0), encV 1 1, .int .i64 (lat.getD k 0)] W fun e w' => e = .returned (encI (liveX (k + 1))) ∧ Below W.heap.size W w') := fun W =>
        step17 (liveX k) lh _ 1 1 _ W ((live_inv k (by omega)).hf (lat_in k hlt6).1 (lat_in k hlt6).2) ((live_inv k (by omega)).hq (lat_in k hlt6).1 (lat_in k hlt6).2)
      have hchk : Hid (∀ W, Calls Try.prog 11 #[encI (liveX (k + 1))] W fun e w' => e = .returned (.int .i64 0) ∧ Below W.heap.size W w') := fun W => by
        have := check11 (liveX (k + 1)) W
        rw [hs2] at this; exact this
      clear hs2
      obtain ⟨x, hX⟩ : ∃ x, Hid (liveX k = x) := ⟨_, rfl⟩
      obtain ⟨y, hY⟩ : ∃ y, Hid (liveX (k + 1) = y) := ⟨_, rfl⟩
      obtain ⟨at0, hat⟩ : ∃ z, Hid (lat.getD k 0 = z) := ⟨_, rfl⟩
      obtain ⟨re0, hre⟩ : ∃ z, Hid (lre.getD k 0 = z) := ⟨_, rfl⟩
      have hwa : Hid (lwa.getD k 0 = y.st) := by show _ = _; rw [← hs1, hY.out]
      clear hs1
      rw [hX.out, hY.out, hat.out, hre.out] at hstep
      rw [hY.out] at hchk
      rw [hX.out] at hx
      replace hstep : Hid (∀ W, Calls Try.prog 17 #[.agg #[.int .i64 x.st, .int .i64 x.since, .int .i64 x.fr, .int .i64 x.quiet, .int .i64 x.seen, .int .i64 x.vk, .int .i64 x.vn], .agg #[.int .i64 10, .int .i64 5, .int .i64 1, .int .i64 1], .int .i64 re0, .agg #[.int .i64 1, .int .i64 1], .int .i64 at0] W fun e w' => e = .returned (.agg #[.int .i64 y.st, .int .i64 y.since, .int .i64 y.fr, .int .i64 y.quiet, .int .i64 y.seen, .int .i64 y.vk, .int .i64 y.vn]) ∧ Below W.heap.size W w') := hstep
      replace hchk : Hid (∀ W, Calls Try.prog 11 #[.agg #[.int .i64 y.st, .int .i64 y.since, .int .i64 y.fr, .int .i64 y.quiet, .int .i64 y.seen, .int .i64 y.vk, .int .i64 y.vn]] W fun e w' => e = .returned (.int .i64 0) ∧ Below W.heap.size W w') := hchk
      clear hI
      have hp := hx.cells
      obtain ⟨p0, p1, p2, p3, p4, p5, p6⟩ := hp
      replace hr : Hid (Blk wr (g + 1 + 1) oRe) := hr
      replace ha : Hid (Blk wr (g + 1) oAt) := ha
      replace hh : Hid (Blk wr w.heap.size (.cells #[.int .i64 10, .int .i64 5, .int .i64 1, .int .i64 1] 27)) := hh
      replace hw : Hid (Blk wr (g + 1 + 1 + 1) oWa) := hw
      replace hx : Hid (IAt wr g x) := hx
      replace hB : Hid (Below w.heap.size w wr) := hB
      go_wp2
      clear p0 p1 p2 p3 p4 p5 p6
      have cx0 : ∀ p : Bel wr, p.W.cell? ⟨g, 0, none⟩ = some (.int .i64 x.st) := fun p => ((hx.out.grow p.h).cells).1
      have cx1 : ∀ p : Bel wr, p.W.cell? ⟨g, 1, none⟩ = some (.int .i64 x.since) := fun p => ((hx.out.grow p.h).cells).2.1
      have cx2 : ∀ p : Bel wr, p.W.cell? ⟨g, 2, none⟩ = some (.int .i64 x.fr) := fun p => ((hx.out.grow p.h).cells).2.2.1
      have cx3 : ∀ p : Bel wr, p.W.cell? ⟨g, 3, none⟩ = some (.int .i64 x.quiet) := fun p => ((hx.out.grow p.h).cells).2.2.2.1
      have cx4 : ∀ p : Bel wr, p.W.cell? ⟨g, 4, none⟩ = some (.int .i64 x.seen) := fun p => ((hx.out.grow p.h).cells).2.2.2.2.1
      have cx5 : ∀ p : Bel wr, p.W.cell? ⟨g, 5, none⟩ = some (.int .i64 x.vk) := fun p => ((hx.out.grow p.h).cells).2.2.2.2.2.1
      have cx6 : ∀ p : Bel wr, p.W.cell? ⟨g, 6, none⟩ = some (.int .i64 x.vn) := fun p => ((hx.out.grow p.h).cells).2.2.2.2.2.2
      have ch0 : ∀ p : Bel wr, p.W.cell? ⟨w.heap.size, 0, none⟩ = some (.int .i64 10) := fun p => (sfacts (W := p.W) hh ha hr hlt6 hat hre p.h).1
      have ch1 : ∀ p : Bel wr, p.W.cell? ⟨w.heap.size, 1, none⟩ = some (.int .i64 5) := fun p => (sfacts (W := p.W) hh ha hr hlt6 hat hre p.h).2.1
      have ch2 : ∀ p : Bel wr, p.W.cell? ⟨w.heap.size, 2, none⟩ = some (.int .i64 1) := fun p => (sfacts (W := p.W) hh ha hr hlt6 hat hre p.h).2.2.1
      have ch3 : ∀ p : Bel wr, p.W.cell? ⟨w.heap.size, 3, none⟩ = some (.int .i64 1) := fun p => (sfacts (W := p.W) hh ha hr hlt6 hat hre p.h).2.2.2.1
      have ca : ∀ p : Bel wr, p.W.cell? ⟨g + 1, k, none⟩ = some (.int .i64 at0) := fun p => (sfacts (W := p.W) hh ha hr hlt6 hat hre p.h).2.2.2.2.1
      have cr : ∀ p : Bel wr, p.W.cell? ⟨g + 1 + 1, k, none⟩ = some (.int .i64 re0) := fun p => (sfacts (W := p.W) hh ha hr hlt6 hat hre p.h).2.2.2.2.2
      have k20 : ∀ p : Bel wr, Calls Try.prog 20 #[.int .i64 1] p.W fun e w' => e = .returned (.agg #[.int .i64 1, .int .i64 1]) ∧ Below p.W.heap.size p.W w' := fun p => hnum.out p.W
      have k17 : ∀ p : Bel wr, Calls Try.prog 17 #[.agg #[.int .i64 x.st, .int .i64 x.since, .int .i64 x.fr, .int .i64 x.quiet, .int .i64 x.seen, .int .i64 x.vk, .int .i64 x.vn], .agg #[.int .i64 10, .int .i64 5, .int .i64 1, .int .i64 1], .int .i64 re0, .agg #[.int .i64 1, .int .i64 1], .int .i64 at0] p.W fun e w' => e = .returned (.agg #[.int .i64 y.st, .int .i64 y.since, .int .i64 y.fr, .int .i64 y.quiet, .int .i64 y.seen, .int .i64 y.vk, .int .i64 y.vn]) ∧ Below p.W.heap.size p.W w' := fun p => hstep.out p.W
      refine Yquiettail.region_tail (C := fun W => ∃ p : Bel wr, W = p.W) 12 (by kernel_rfl) (by kernel_rfl) ⟨⟨wr.drew, (Below.refl _ _).drew⟩, rfl⟩ ?_
      dsimp only [List.take, List.drop]
      repeat (go_big_quiet_step (first | (go_at_call 20; exact Calls.bel (k20 _)) | (go_at_call 17; exact Calls.bel (k17 _))))
      refine wpQuiet_nil ?_
      rintro w5 ⟨⟨wz, h5⟩, rfl⟩
      replace h5 : Below wr.heap.size wr w5 := h5
      clear cx0 cx1 cx2 cx3 cx4 cx5 cx6 ch0 ch1 ch2 ch3 ca cr k20 k17
      have hx5 := hx.out.grow h5
      have hx6 : Hid (IAt ((((((((w5.setCell ⟨g, 0, none⟩ (.int .i64 y.st)).setCell ⟨g, 1, none⟩ (.int .i64 y.since)).setCell ⟨g, 2, none⟩ (.int .i64 y.fr)).setCell ⟨g, 3, none⟩ (.int .i64 y.quiet)).setCell ⟨g, 4, none⟩ (.int .i64 y.seen)).setCell ⟨g, 5, none⟩ (.int .i64 y.vk)).setCell ⟨g, 6, none⟩ (.int .i64 y.vn))) g y) := iSet (w := w5) (x := g) (i := y) hx5
      have hh6 : Hid (Blk ((((((((w5.setCell ⟨g, 0, none⟩ (.int .i64 y.st)).setCell ⟨g, 1, none⟩ (.int .i64 y.since)).setCell ⟨g, 2, none⟩ (.int .i64 y.fr)).setCell ⟨g, 3, none⟩ (.int .i64 y.quiet)).setCell ⟨g, 4, none⟩ (.int .i64 y.seen)).setCell ⟨g, 5, none⟩ (.int .i64 y.vk)).setCell ⟨g, 6, none⟩ (.int .i64 y.vn))) w.heap.size (.cells #[.int .i64 10, .int .i64 5, .int .i64 1, .int .i64 1] 27)) := Blk.set7 (w := w5) (g := w.heap.size) (x := g) (i := y) (hh.out.grow h5) (by omega)
      have ha6 : Hid (Blk ((((((((w5.setCell ⟨g, 0, none⟩ (.int .i64 y.st)).setCell ⟨g, 1, none⟩ (.int .i64 y.since)).setCell ⟨g, 2, none⟩ (.int .i64 y.fr)).setCell ⟨g, 3, none⟩ (.int .i64 y.quiet)).setCell ⟨g, 4, none⟩ (.int .i64 y.seen)).setCell ⟨g, 5, none⟩ (.int .i64 y.vk)).setCell ⟨g, 6, none⟩ (.int .i64 y.vn))) (g + 1) oAt) := Blk.set7 (w := w5) (g := (g + 1)) (x := g) (i := y) (ha.out.grow h5) (by omega)
      have hr6 : Hid (Blk ((((((((w5.setCell ⟨g, 0, none⟩ (.int .i64 y.st)).setCell ⟨g, 1, none⟩ (.int .i64 y.since)).setCell ⟨g, 2, none⟩ (.int .i64 y.fr)).setCell ⟨g, 3, none⟩ (.int .i64 y.quiet)).setCell ⟨g, 4, none⟩ (.int .i64 y.seen)).setCell ⟨g, 5, none⟩ (.int .i64 y.vk)).setCell ⟨g, 6, none⟩ (.int .i64 y.vn))) (g + 1 + 1) oRe) := Blk.set7 (w := w5) (g := (g + 1 + 1)) (x := g) (i := y) (hr.out.grow h5) (by omega)
      have hw6 : Hid (Blk ((((((((w5.setCell ⟨g, 0, none⟩ (.int .i64 y.st)).setCell ⟨g, 1, none⟩ (.int .i64 y.since)).setCell ⟨g, 2, none⟩ (.int .i64 y.fr)).setCell ⟨g, 3, none⟩ (.int .i64 y.quiet)).setCell ⟨g, 4, none⟩ (.int .i64 y.seen)).setCell ⟨g, 5, none⟩ (.int .i64 y.vk)).setCell ⟨g, 6, none⟩ (.int .i64 y.vn))) (g + 1 + 1 + 1) oWa) := Blk.set7 (w := w5) (g := (g + 1 + 1 + 1)) (x := g) (i := y) (hw.out.grow h5) (by omega)
      have hB6 : Hid (Below w.heap.size w ((((((((w5.setCell ⟨g, 0, none⟩ (.int .i64 y.st)).setCell ⟨g, 1, none⟩ (.int .i64 y.since)).setCell ⟨g, 2, none⟩ (.int .i64 y.fr)).setCell ⟨g, 3, none⟩ (.int .i64 y.quiet)).setCell ⟨g, 4, none⟩ (.int .i64 y.seen)).setCell ⟨g, 5, none⟩ (.int .i64 y.vk)).setCell ⟨g, 6, none⟩ (.int .i64 y.vn)))) := belSet7 (W := w5) (x := g) (i := y) (hB.out.trans (h5.mono hB.out.size)) (Nat.le_of_lt hg)
      obtain ⟨f0, f1, f2, f3, f4, f5, f6⟩ := hx5.frozen
      obtain ⟨p0, p1, p2, p3, p4, p5, p6⟩ := hx5.cells
      replace h5 : Hid _ := h5
      replace hx5 : Hid _ := hx5
      go_wp2
      clear p0 p1 p2 p3 p4 p5 p6 f0 f1 f2 f3 f4 f5 f6
      generalize (((((((w5.setCell ⟨g, 0, none⟩ (.int .i64 y.st)).setCell ⟨g, 1, none⟩ (.int .i64 y.since)).setCell ⟨g, 2, none⟩ (.int .i64 y.fr)).setCell ⟨g, 3, none⟩ (.int .i64 y.quiet)).setCell ⟨g, 4, none⟩ (.int .i64 y.seen)).setCell ⟨g, 5, none⟩ (.int .i64 y.vk)).setCell ⟨g, 6, none⟩ (.int .i64 y.vn)) = W6 at *
      have cy0 : ∀ p : Bel W6, p.W.cell? ⟨g, 0, none⟩ = some (.int .i64 y.st) := fun p => ((hx6.out.grow p.h).cells).1
      have cy1 : ∀ p : Bel W6, p.W.cell? ⟨g, 1, none⟩ = some (.int .i64 y.since) := fun p => ((hx6.out.grow p.h).cells).2.1
      have cy2 : ∀ p : Bel W6, p.W.cell? ⟨g, 2, none⟩ = some (.int .i64 y.fr) := fun p => ((hx6.out.grow p.h).cells).2.2.1
      have cy3 : ∀ p : Bel W6, p.W.cell? ⟨g, 3, none⟩ = some (.int .i64 y.quiet) := fun p => ((hx6.out.grow p.h).cells).2.2.2.1
      have cy4 : ∀ p : Bel W6, p.W.cell? ⟨g, 4, none⟩ = some (.int .i64 y.seen) := fun p => ((hx6.out.grow p.h).cells).2.2.2.2.1
      have cy5 : ∀ p : Bel W6, p.W.cell? ⟨g, 5, none⟩ = some (.int .i64 y.vk) := fun p => ((hx6.out.grow p.h).cells).2.2.2.2.2.1
      have cy6 : ∀ p : Bel W6, p.W.cell? ⟨g, 6, none⟩ = some (.int .i64 y.vn) := fun p => ((hx6.out.grow p.h).cells).2.2.2.2.2.2
      have cw : ∀ p : Bel W6, p.W.cell? ⟨g + 1 + 1 + 1, k, none⟩ = some (.int .i64 y.st) := fun p => by rw [wa_cell (hw6.out.grow p.h) hlt6, hwa.out]
      have k11 : ∀ p : Bel W6, Calls Try.prog 11 #[.agg #[.int .i64 y.st, .int .i64 y.since, .int .i64 y.fr, .int .i64 y.quiet, .int .i64 y.seen, .int .i64 y.vk, .int .i64 y.vn]] p.W fun e w' => e = .returned (.int .i64 0) ∧ Below p.W.heap.size p.W w' := fun p => hchk.out p.W
      have k10 : ∀ p : Bel W6, Calls Try.prog 10 #[.int .i64 0] p.W fun e w' => e = .returned (.int .i64 0) ∧ Below p.W.heap.size p.W w' := fun p => calls_same (num10 0 p.W)
      have en : (y.st != y.st) = false := by simp
      refine wp_region_bel (by kernel_rfl) (by kernel_rfl) ?_
      repeat (go_big_quiet_step (first | (go_at_call 11; exact Calls.bel (k11 _)) | (go_at_call 10; exact Calls.bel (k10 _))))
      refine wpQuiet_nil ?_
      rintro wq ⟨⟨wz, hq⟩, rfl⟩
      replace hq : Hid (Below W6.heap.size W6 wq) := hq
      clear cy0 cy1 cy2 cy3 cy4 cy5 cy6 cw k11 k10
      go_wp2
      go_roundw
      case rel =>
        refine ⟨k + 1, by omega, by go_num, ?_⟩
        refine ⟨by rw [hY.out]; exact hx6.out.grow hq.out, hh6.out.grow hq.out, ha6.out.grow hq.out, hr6.out.grow hq.out, hw6.out.grow hq.out, hB6.out.trans (hq.out.mono hB6.out.size), hg⟩
      case measure => simp [intOf]; omega
    · obtain rfl : k = 6 := by omega
      obtain ⟨hx, hh, ha, hr, hw, hB, hg⟩ := hI.out
      clear hx ha hr hw hI hnum
      have hz0 : Hid (∀ W, Calls Try.prog 11 #[.agg #[.int .i64 0, .int .i64 0, .int .i64 0, .int .i64 0, .int .i64 0, .int .i64 0, .int .i64 0]] W fun e w' => e = .returned (.int .i64 2) ∧ Below W.heap.size W w') := fun W => check11 zI W
      have hm : Hid (∀ W, Calls Try.prog 15 #[.agg #[.int .i64 10, .int .i64 5, .int .i64 1, .int .i64 1], .int .i64 3] W fun e w' => e = .returned (.int .i64 3) ∧ Below W.heap.size W w') := fun W => means15 lh 3 W
      have hnum := num10
      have c0 := h_cell hh
      replace hh : Hid (Blk wr w.heap.size (.cells #[.int .i64 10, .int .i64 5, .int .i64 1, .int .i64 1] 27)) := hh
      replace hB : Hid (Below w.heap.size w wr) := hB
      go_wp2_with (first
        | (go_at_call 11; refine (hz0.out _).mono ?_; rintro e w2 ⟨rfl, hb2⟩; have hh2 := hh.out.grow hb2; have c2 := h_cell hh2; have hB2 : Hid (Below w.heap.size w w2) := hB.out.trans (hb2.mono hB.out.size); clear hb2; replace hh2 : Hid (Blk w2 w.heap.size (.cells #[.int .i64 10, .int .i64 5, .int .i64 1, .int .i64 1] 27)) := hh2)
        | (go_at_call 10; refine (hnum _ _).mono ?_; rintro e wx ⟨rfl, hwx⟩; subst wx)
        | (go_at_call 15; refine (hm.out _).mono ?_; rintro e w3 ⟨rfl, hb3⟩; have hB3 : Hid (Below w.heap.size w w3) := hB2.out.trans (hb3.mono hB2.out.size)))
      go_ret
      exact ⟨rfl, hB3.out⟩
end Go.Proofs.Ytcfhpndoaiknhaa
