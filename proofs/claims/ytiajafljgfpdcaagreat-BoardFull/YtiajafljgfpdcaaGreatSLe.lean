/- Leaves: times, states, values, policies. -/
import Derived.Test.YtiajafljgfpdcaaGreatSMm
namespace Go.Proofs.YtiajafljgfpdcaaGreat.S
set_option linter.unusedVariables false
open Go.RowKit
theorem ret_bool {a b : Bool} (h : a = b) : Ending.returned (.bool a) = .returned (.bool b) := by rw [h]
theorem ret_int {k : IntKind} {a b : Int} (h : a = b) : Ending.returned (.int k a) = .returned (.int k b) := by rw [h]
set_option maxRecDepth 100000 in
theorem num10 (x : Int) (w : World) : Calls Tryz.prog 16 #[.int .i64 x] w fun e w' => e = .returned (.int .i64 x) ∧ w' = w := by
  go_enter Tryz.func16, Tryz.ntmps16
  go_wp2
  go_ret
  exact ⟨rfl, rfl⟩
set_option maxRecDepth 100000 in
theorem isTime32 (x : Int) (w : World) : Calls Tryz.prog 130 #[.int .i64 x] w fun e w' => e = .returned (.bool (tB x)) ∧ w' = w := by
  have hR : Hid (tB x = decide (0 ≤ x ∧ x ≤ 1099511627776)) := rfl
  go_enter Tryz.func130, Tryz.ntmps130
  go_wp2
  all_goals
    go_ret
    refine ⟨?_, rfl⟩
    rw [hR.out]
    refine ret_bool ?_
    simp_all
    try first | rfl | omega
set_option maxRecDepth 100000 in
theorem time25 (x : Int) (w : World) : Calls Tryz.prog 65 #[.int .i64 x] w fun e w' => e = .returned (.bool (tB x)) ∧ w' = w := by
  have hR : Hid (tB x = decide (0 ≤ x ∧ x ≤ 1099511627776)) := rfl
  go_enter Tryz.func65, Tryz.ntmps65
  go_wp2
  all_goals
    go_ret
    refine ⟨?_, rfl⟩
    rw [hR.out]
    refine ret_bool ?_
    simp_all
    try first | rfl | omega
set_option maxRecDepth 100000 in
theorem isState22 (x : Int) (w : World) : Calls Tryz.prog 106 #[.int .i64 x] w fun e w' => e = .returned (.bool (decide (1 ≤ x ∧ x ≤ 5))) ∧ w' = w := by
  obtain ⟨R, hR⟩ : ∃ R, Hid (R = decide (1 ≤ x ∧ x ≤ 5)) := ⟨_, rfl⟩
  rw [← hR.out]
  go_enter Tryz.func106, Tryz.ntmps106
  go_wp2
  all_goals
    go_ret
    refine ⟨?_, rfl⟩
    rw [hR.out]
    refine ret_bool ?_
    simp_all
    try first | rfl | omega
abbrev vO (k n : Int) : Obj := .cells #[.int .i64 k, .int .i64 n] 57
set_option maxRecDepth 100000 in
theorem isValue35 (k n : Int) (w : World) : Calls Tryz.prog 133 #[encV k n] w fun e w' => e = .returned (.bool (vB k n)) ∧ w' = w.alloc (vO k n) := by
  unfold encV
  obtain ⟨R, hR⟩ : ∃ R, Hid (R = vB k n) := ⟨_, rfl⟩
  rw [← hR.out]
  have hR2 : Hid (R = decide ((k = 1 ∧ -1000000000000000 ≤ n ∧ n ≤ 1000000000000000) ∨ (2 ≤ k ∧ k ≤ 5 ∧ n = 0))) := hR.out
  clear hR
  go_enter Tryz.func133, Tryz.ntmps133
  go_wp2
  all_goals
    go_ret
    refine ⟨?_, rfl⟩
    rw [hR2.out]
    refine ret_bool ?_
    simp_all
    try first | rfl | omega
set_option maxRecDepth 100000 in
theorem is21 (k n : Int) (w : World) : Calls Tryz.prog 25 #[encV k n] w fun e w' => e = .returned (.bool (vB k n)) ∧ w' = w.alloc (vO k n) := by
  unfold encV
  obtain ⟨R, hR⟩ : ∃ R, Hid (R = vB k n) := ⟨_, rfl⟩
  rw [← hR.out]
  have hR2 : Hid (R = decide ((k = 1 ∧ -1000000000000000 ≤ n ∧ n ≤ 1000000000000000) ∨ (2 ≤ k ∧ k ≤ 5 ∧ n = 0))) := hR.out
  clear hR
  go_enter Tryz.func25, Tryz.ntmps25
  go_wp2
  all_goals
    go_ret
    refine ⟨?_, rfl⟩
    rw [hR2.out]
    refine ret_bool ?_
    simp_all
    try first | rfl | omega
set_option maxRecDepth 100000 in
theorem byPolicy27 (p r : Int) (w : World) : Calls Tryz.prog 121 #[.int .i64 p, .int .i64 r] w fun e w' => e = .returned (.int .i64 (polI p r)) ∧ w' = w := by
  have hR : Hid (polI p r = if p = 1 then r else if p = 2 then 2 else if p = 3 then 1 else 0) := rfl
  go_enter Tryz.func121, Tryz.ntmps121
  go_wp2
  all_goals
    go_ret
    refine ⟨?_, rfl⟩
    rw [hR.out]
    refine ret_int ?_
    simp_all
set_option maxRecDepth 100000 in
theorem mayFrom33 (s f : Int) (w : World) : Calls Tryz.prog 131 #[.int .i64 s, .int .i64 f] w fun e w' => e = .returned (.bool (frB s f)) ∧ w' = w := by
  have hR : Hid (frB s f = if f = -1 then decide (s ≠ 2) else tB f && decide (s = 2 ∨ s = 3)) := rfl
  have h1 := isTime32 f
  generalize tB f = T at *
  cases T
  all_goals
    go_enter Tryz.func131, Tryz.ntmps131
    go_wp2_with (go_at_call 130; refine (h1 _).mono ?_; rintro e wx ⟨rfl, hwx⟩; subst wx)
    all_goals
      go_ret
      refine ⟨?_, rfl⟩
      rw [hR.out]
      refine ret_bool ?_
      simp_all
      try (rw [Bool.eq_iff_iff]; simp <;> omega)
set_option maxRecDepth 100000 in
theorem mayQuiet34 (s f : Int) (w : World) : Calls Tryz.prog 132 #[.int .i64 s, .int .i64 f] w fun e w' => e = .returned (.bool (quB s f)) ∧ w' = w := by
  have hR : Hid (quB s f = (decide (f = -1) || (tB f && decide (s = 3)))) := rfl
  have h1 := isTime32 f
  generalize tB f = T at *
  cases T
  all_goals
    go_enter Tryz.func132, Tryz.ntmps132
    go_wp2_with (go_at_call 130; refine (h1 _).mono ?_; rintro e wx ⟨rfl, hwx⟩; subst wx)
    all_goals
      go_ret
      refine ⟨?_, rfl⟩
      rw [hR.out]
      refine ret_bool ?_
      simp_all
      try (rw [Bool.eq_iff_iff]; simp <;> omega)
set_option maxRecDepth 100000 in
theorem means15 (h : Hd) (r : Int) (w : World) : Calls Tryz.prog 98 #[encH h, .int .i64 r] w fun e w' => e = .returned (.int .i64 (meansI h r)) ∧ Below w.heap.size w w' := by
  obtain ⟨fo, keep, nd, oe⟩ := h
  unfold encH
  have hR : Hid (meansI ⟨fo, keep, nd, oe⟩ r = if r = 1 ∨ r = 2 then r else if r = 3 then polI nd r else if r = 4 then polI oe r else 0) := rfl
  have hB : Hid (∀ o, Below w.heap.size w (w.alloc o)) := fun o => (Below.refl _ w).alloc (Nat.le_refl _) o
  simp only
  have hP := byPolicy27
  go_enter Tryz.func98, Tryz.ntmps98
  go_wp2_with (go_at_call 121; refine (hP _ _ _).mono ?_; rintro e wx ⟨rfl, hwx⟩; subst wx)
  all_goals
    go_ret
    refine ⟨?_, hB.out _⟩
    rw [hR.out]
    refine ret_int ?_
    simp_all
set_option maxRecDepth 100000 in
theorem rmeans16 (h : Hd) (r : Int) (w : World) : Calls Tryz.prog 78 #[encH h, .int .i64 r] w fun e w' => e = .returned (.int .i64 (meansI h r)) ∧ Below w.heap.size w w' := by
  obtain ⟨fo, keep, nd, oe⟩ := h
  unfold encH
  have hR : Hid (meansI ⟨fo, keep, nd, oe⟩ r = if r = 1 ∨ r = 2 then r else if r = 3 then polI nd r else if r = 4 then polI oe r else 0) := rfl
  have hB : Hid (∀ o, Below w.heap.size w (w.alloc o)) := fun o => (Below.refl _ w).alloc (Nat.le_refl _) o
  have hP : Hid (∀ p, polI p r = if p = 1 then r else if p = 2 then 2 else if p = 3 then 1 else 0) := fun _ => rfl
  simp only
  go_enter Tryz.func78, Tryz.ntmps78
  go_wp2
  all_goals
    go_ret
    refine ⟨?_, hB.out _⟩
    rw [hR.out]
    refine ret_int ?_
    have hP2 := hP.out
    simp_all
/-- Block x holds a value; an instance. -/
def VAt (w : World) (x : Nat) (k n : Int) : Prop := w.heap[x]? = some (.cells #[.int .i64 k, .int .i64 n] 57 (0, 0))
def IAt (w : World) (x : Nat) (i : Inst) : Prop := w.heap[x]? = some (.cells #[.int .i64 i.st, .int .i64 i.since, .int .i64 i.fr, .int .i64 i.quiet, .int .i64 i.seen, .int .i64 i.vk, .int .i64 i.vn] 65 (0, 0))
abbrev iO (i : Inst) : Obj := .cells #[.int .i64 i.st, .int .i64 i.since, .int .i64 i.fr, .int .i64 i.quiet, .int .i64 i.seen, .int .i64 i.vk, .int .i64 i.vn] 65
section
variable {w w' : World} {x : Nat} {k n : Int} {i j : Inst}
theorem VAt.cells (h : VAt w x k n) : w.cell? ⟨x, 0, none⟩ = some (.int .i64 k) ∧ w.cell? ⟨x, 1, none⟩ = some (.int .i64 n) := by
  unfold VAt at h
  simp [World.cell?, h]
theorem IAt.cells (h : IAt w x i) : w.cell? ⟨x, 0, none⟩ = some (.int .i64 i.st) ∧ w.cell? ⟨x, 1, none⟩ = some (.int .i64 i.since) ∧ w.cell? ⟨x, 2, none⟩ = some (.int .i64 i.fr) ∧ w.cell? ⟨x, 3, none⟩ = some (.int .i64 i.quiet) ∧ w.cell? ⟨x, 4, none⟩ = some (.int .i64 i.seen) ∧ w.cell? ⟨x, 5, none⟩ = some (.int .i64 i.vk) ∧ w.cell? ⟨x, 6, none⟩ = some (.int .i64 i.vn) := by
  unfold IAt at h
  simp [World.cell?, h]
theorem IAt.frozen (h : IAt w x i) : w.frozen? ⟨x, 0, none⟩ = false ∧ w.frozen? ⟨x, 1, none⟩ = false ∧ w.frozen? ⟨x, 2, none⟩ = false ∧ w.frozen? ⟨x, 3, none⟩ = false ∧ w.frozen? ⟨x, 4, none⟩ = false ∧ w.frozen? ⟨x, 5, none⟩ = false ∧ w.frozen? ⟨x, 6, none⟩ = false := by
  unfold IAt at h
  simp [World.frozen?, h]
theorem IAt.lt (h : IAt w x i) : x < w.heap.size := (Array.getElem?_eq_some_iff.1 h).1
theorem IAt.keep (h : IAt w x i) (e : w'.heap[x]? = w.heap[x]?) : IAt w' x i := e.trans h
theorem IAt.grow (h : IAt w x i) (hb : Below w.heap.size w w') : IAt w' x i := h.keep (hb.block x h.lt)
theorem IAt.alloc (h : IAt w x i) (o : Obj) : IAt (w.alloc o) x i := h.grow ((Below.refl _ w).alloc (Nat.le_refl _) o)
theorem IAt.drew (h : IAt w x i) : IAt w.drew x i := h.grow (Below.refl _ w).drew
theorem iNew (w : World) (i : Inst) : IAt (w.alloc (iO i)) w.heap.size i := by
  show (w.heap.push _)[w.heap.size]? = _
  simp
theorem block_setCell {g i : Nat} {C : Array Value} {t : TypeId} {u : Value} (h : w.heap[g]? = some (.cells C t (0, 0))) : (w.setCell ⟨g, i, none⟩ u).heap[g]? = some (.cells (C.setIfInBounds i u) t (0, 0)) := by
  unfold World.setCell
  rw [Array.getElem?_modify, if_pos rfl, h]
  rfl
theorem vNew (w : World) : VAt (w.alloc (vO k n)) w.heap.size k n := by
  show (w.heap.push _)[w.heap.size]? = _
  simp
theorem vSet {k0 n0 : Int} (h : VAt w x k0 n0) : VAt ((w.setCell ⟨x, 0, none⟩ (.int .i64 k)).setCell ⟨x, 1, none⟩ (.int .i64 n)) x k n := by
  have h1 := block_setCell (i := 0) (u := .int .i64 k) h
  have h2 := block_setCell (i := 1) (u := .int .i64 n) h1
  unfold VAt
  rw [h2]
  simp
abbrev set7 (w : World) (x : Nat) (i : Inst) : World := ((((((w.setCell ⟨x, 0, none⟩ (.int .i64 i.st)).setCell ⟨x, 1, none⟩ (.int .i64 i.since)).setCell ⟨x, 2, none⟩ (.int .i64 i.fr)).setCell ⟨x, 3, none⟩ (.int .i64 i.quiet)).setCell ⟨x, 4, none⟩ (.int .i64 i.seen)).setCell ⟨x, 5, none⟩ (.int .i64 i.vk)).setCell ⟨x, 6, none⟩ (.int .i64 i.vn)
theorem iSet (h : IAt w x j) : IAt (set7 w x i) x i := by
  have h0 := block_setCell (i := 0) (u := .int .i64 i.st) h
  have h1 := block_setCell (i := 1) (u := .int .i64 i.since) h0
  have h2 := block_setCell (i := 2) (u := .int .i64 i.fr) h1
  have h3 := block_setCell (i := 3) (u := .int .i64 i.quiet) h2
  have h4 := block_setCell (i := 4) (u := .int .i64 i.seen) h3
  have h5 := block_setCell (i := 5) (u := .int .i64 i.vk) h4
  have h6 := block_setCell (i := 6) (u := .int .i64 i.vn) h5
  unfold IAt set7
  rw [h6]
  simp
theorem belSet7 {W : World} {m : Nat} (h : Below m w W) (hx : m ≤ x) : Below m w (set7 W x i) :=
  ((((((h.setCell (p := ⟨x, 0, none⟩) hx _).setCell (p := ⟨x, 1, none⟩) hx _).setCell (p := ⟨x, 2, none⟩) hx _).setCell (p := ⟨x, 3, none⟩) hx _).setCell (p := ⟨x, 4, none⟩) hx _).setCell (p := ⟨x, 5, none⟩) hx _).setCell (p := ⟨x, 6, none⟩) hx _
end
/-- A result that lies in a block. -/
theorem ret_cellV {fn : Func} {p : Tmp} {tmps : Array Value} {w' : World} {x : Nat} {k n : Int} {Q : Ending → World → Prop} (hr : fn.results = #[.cell p 57]) (ht : tmps[p]?.getD undef = .pointer (some ⟨x, 0, none⟩)) (hv : VAt w' x k n)
    (hq : Q (.returned (encV k n)) w') : bodyPost Tryz.prog fn Q .ret { tmps := tmps, defers := [] } w' := by
  obtain ⟨c0, c1⟩ := hv.cells
  refine bodyPost_ret (v := encV k n) ?_ rfl hq
  simp [results, hr, ht, go_sem, encV, c0, c1]
theorem ret_cellI {fn : Func} {p : Tmp} {tmps : Array Value} {w' : World} {x : Nat} {i : Inst} {Q : Ending → World → Prop} (hr : fn.results = #[.cell p 65]) (ht : tmps[p]?.getD undef = .pointer (some ⟨x, 0, none⟩)) (hv : IAt w' x i)
    (hq : Q (.returned (encI i)) w') : bodyPost Tryz.prog fn Q .ret { tmps := tmps, defers := [] } w' := by
  obtain ⟨c0, c1, c2, c3, c4, c5, c6⟩ := hv.cells
  refine bodyPost_ret (v := encI i) ?_ rfl hq
  simp [results, hr, ht, go_sem, encI, c0, c1, c2, c3, c4, c5, c6]
end Go.Proofs.YtiajafljgfpdcaaGreat.S
