/- The contracts of operate, Arm and New. -/
import Derived.Test.YtcgjolonapndgaaDisk
namespace Go.Proofs.Ytcgjolonapndgaa
open Go.RowKit Go.Maps Go.ChangeMaps Go.MapKept

/-- Is an operation done? -/
def St.live (s : St) : Bool := !s.dead && s.left != 0
/-- Behind an operation's beginning. -/
def St.op (s : St) : St := if s.live then { s with left := if s.left = -1 then -1 else s.left - 1, ops := s.ops + 1 } else { s with dead := true }
def St.errOp (s : St) : Int := if s.live then 0 else 20

theorem grown_set {w W : World} {p : Nat} (h : w.grownBy W (some p)) (i : Nat) (u : Value) : w.grownBy (W.setCell ⟨p, i, none⟩ u) (some p) :=
  ⟨h.os, h.tape, h.output, by simpa [World.setCell] using h.size, fun k hk hne => (Below.heap_setCell W _ u k (fun e => hne (by rw [e]))).trans (h.block k hk hne)⟩
theorem grown_refl (w : World) (row : Option Nat) : w.grownBy w row := ⟨rfl, rfl, rfl, Nat.le_refl _, fun _ _ _ => rfl⟩
theorem other_set (w : World) (p i : Nat) (u : Value) (k : Nat) (hk : k ≠ p) : (w.setCell ⟨p, i, none⟩ u).heap[k]? = w.heap[k]? := Below.heap_setCell w _ u k hk

section
variable {w : World} {p : Nat} {F : Nat → Prop} {s : St} {bs bf ns nf : Nat} {gs gf : Int → Option Nat}
set_option maxRecDepth 100000 in
set_option maxHeartbeats 1000000 in
theorem operate_raw (h : IsDisk w p F s bs bf ns nf gs gf) (hops : s.ops < 4611686018427387904) : Calls Try.prog 47 #[.pointer (some ⟨p, 0, none⟩)] w fun e w' => e = .returned (.int .i64 s.errOp) ∧ w'.heap[p]? = some (.cells (diskCells s.op bs bf) 84 (0, 0)) ∧ (∀ k, k ≠ p → w'.heap[k]? = w.heap[k]?) ∧ w.grownBy w' (some p) := by
  have c4 := h.c4
  have c5 := h.c5
  have c6 := h.c6
  have f4 := h.fr 4
  have f5 := h.fr 5
  have f6 := h.fr 6
  have l1 := h.left1
  have l2 := h.left2
  have HC : Hid (w.heap[p]? = some (.cells (diskCells s bs bf) 84 (0, 0))) := h.cells
  clear h
  obtain ⟨sec, sz, sf, fr, dead, left, ops⟩ := s
  simp only at c4 c5 c6 l1 l2 hops
  by_cases hl : left = 0
  · subst hl
    go_enter Try.func47, Try.ntmps47
    go_wp2
    go_ret
    refine ⟨by simp [St.errOp, St.live], (block_setCell HC.out).trans ?_, other_set _ _ _ _, grown_set (grown_refl _ _) _ _⟩
    simp [St.op, St.live, diskCells]
  · have hln : (left == 0) = false := by simpa using hl
    cases dead with
    | true =>
      go_enter Try.func47, Try.ntmps47
      go_wp2
      go_ret
      refine ⟨by simp [St.errOp, St.live], HC.out.trans ?_, fun _ _ => rfl, grown_refl _ _⟩
      simp [St.op, St.live, diskCells]
    | false =>
      by_cases hm : left = -1
      · subst hm
        go_enter Try.func47, Try.ntmps47
        go_wp2
        go_ret
        refine ⟨by simp [St.errOp, St.live], (block_setCell HC.out).trans ?_, other_set _ _ _ _, grown_set (grown_refl _ _) _ _⟩
        simp [St.op, St.live, diskCells]
      · have hmn : (left == -1) = false := by simpa using hm
        go_enter Try.func47, Try.ntmps47
        go_wp2
        go_ret
        refine ⟨by simp [St.errOp, St.live, hl], (block_setCell (block_setCell HC.out)).trans ?_, fun k hk => (other_set _ _ _ _ k hk).trans (other_set _ _ _ _ k hk), grown_set (grown_set (grown_refl _ _) _ _) _ _⟩
        simp [St.op, St.live, diskCells, hl, hm]
theorem op_same (s : St) : s.op.sectors = s.sectors ∧ s.op.size = s.size ∧ s.op.safe = s.safe ∧ s.op.fresh = s.fresh ∧ s.ops ≤ s.op.ops ∧ s.op.ops ≤ s.ops + 1 := by
  unfold St.op; split <;> simp
theorem op_left (s : St) (h1 : -1 ≤ s.left) (h2 : s.left ≤ 9223372036854775807) : -1 ≤ s.op.left ∧ s.op.left ≤ 9223372036854775807 := by
  unfold St.op
  split
  · rename_i h
    simp only [St.live, Bool.and_eq_true, bne_iff_ne] at h
    have h3 := h.2
    simp only
    split
    · omega
    · omega
  · exact ⟨h1, h2⟩
theorem operate_any (h : IsDisk w p F s bs bf ns nf gs gf) (hops : s.ops < 4611686018427387904) : Calls Try.prog 47 #[.pointer (some ⟨p, 0, none⟩)] w fun e w' => e = .returned (.int .i64 s.errOp) ∧ IsDisk w' p F s.op bs bf ns nf gs gf ∧ w.grownBy w' (some p) := by
  refine (operate_raw h hops).mono ?_
  rintro e w' ⟨rfl, hc, hk, hg⟩
  obtain ⟨e1, e2, e3, e4, _⟩ := op_same s
  obtain ⟨l1, l2⟩ := op_left s h.left1 h.left2
  exact ⟨rfl, h.turn hc hk e1 e2 e3 e4 l1 l2, hg⟩

/-- Arm(after). -/
def St.arm (s : St) (after : Int) : St := if s.dead then s else { s with left := max after (-1) }
set_option maxRecDepth 100000 in
set_option maxHeartbeats 1000000 in
theorem arm_any (h : IsD w p F s) (after : Int) (h1 : -9223372036854775808 ≤ after) (h2 : after ≤ 9223372036854775807) : Calls Try.prog 29 #[.pointer (some ⟨p, 0, none⟩), .int .i64 after] w fun e w' => e = .returned (.tuple #[]) ∧ IsD w' p F (s.arm after) ∧ Frm F w w' ∧ w'.heap.size = w.heap.size := by
  obtain ⟨bs, bf, ns, nf, gs, gf, h, hr⟩ := h
  have c4 := h.c4
  have c5 := h.c5
  have f5 := h.fr 5
  have hF : ∀ j, some p = some j → F j ∨ w.heap.size ≤ j := fun j e => by cases e; exact .inl h.inP
  cases hd : s.dead with
  | true =>
    rw [hd] at c4
    have e : s.arm after = s := by simp [St.arm, hd]
    go_enter Try.func29, Try.ntmps29
    go_wp2
    refine bodyPost_ret (results_none rfl _ _ _) rfl ?_
    rw [e]
    exact ⟨rfl, ⟨bs, bf, ns, nf, gs, gf, h, hr⟩, Frm.refl _ _, rfl⟩
  | false =>
    rw [hd] at c4
    have e : s.arm after = { s with left := max after (-1) } := by simp [St.arm, hd]
    have key : ∀ z, z = max after (-1) → (IsD (w.setCell ⟨p, 5, none⟩ (.int .i64 z)) p F (s.arm after) ∧ Frm F w (w.setCell ⟨p, 5, none⟩ (.int .i64 z)) ∧ (w.setCell ⟨p, 5, none⟩ (.int .i64 z)).heap.size = w.heap.size) := by
      rintro z rfl
      rw [e]
      refine ⟨⟨bs, bf, ns, nf, gs, gf, h.turn ((block_setCell h.cells).trans ?_) (fun k hk => other_set _ _ _ _ k hk) rfl rfl rfl rfl (by simp only; omega) (by simp only; omega), hr⟩, Frm.of_grown (grown_set (grown_refl _ _) _ _) hF, by simp [World.setCell]⟩
      simp [diskCells]
    clear h e
    rcases Int.lt_or_le after (-1) with hlt | hge
    · have hk := key (-1) (by omega)
      clear key
      go_enter Try.func29, Try.ntmps29
      go_wp2
      go_end0
      exact ⟨rfl, hk⟩
    · have hk := key after (by omega)
      clear key
      go_enter Try.func29, Try.ntmps29
      go_wp2
      all_goals go_end0
      all_goals exact ⟨rfl, hk⟩

theorem heap3 (w : World) (a b c : Obj) : (((w.alloc a).alloc b).alloc c).heap[w.heap.size]? = some a ∧ (((w.alloc a).alloc b).alloc c).heap[w.heap.size + 1]? = some b ∧ (((w.alloc a).alloc b).alloc c).heap[w.heap.size + 1 + 1]? = some c := by
  refine ⟨?_, ?_, ?_⟩
  · show (((w.heap.push a).push b).push c)[w.heap.size]? = _
    simp only [Array.getElem?_push, Array.size_push]; rw [if_neg (by omega), if_neg (by omega), if_pos trivial]
  · show (((w.heap.push a).push b).push c)[w.heap.size + 1]? = _
    simp only [Array.getElem?_push, Array.size_push]; rw [if_neg (by omega), if_pos trivial]
  · show (((w.heap.push a).push b).push c)[w.heap.size + 1 + 1]? = _
    simp only [Array.getElem?_push, Array.size_push]; rw [if_pos trivial]
/-- New(sectors, size). -/
def St.new (sectors size : Nat) : St := { sectors := sectors, size := size, safe := fun _ => zeros size, fresh := fun _ => none, dead := false, left := -1, ops := 0 }
set_option maxRecDepth 100000 in
set_option maxHeartbeats 1000000 in
theorem new_ok (sectors size : Nat) (h1 : 1 ≤ sectors) (h2 : sectors ≤ 65536) (h3 : 64 ≤ size) (h4 : size ≤ 1024) (w : World) : Calls Try.prog 19 #[.int .i64 sectors, .int .i64 size] w fun e w' => ∃ p, e = .returned (.tuple #[.pointer (some ⟨p, 0, none⟩), .int .i64 0]) ∧ IsD w' p (fun k => w.heap.size ≤ k) (St.new sectors size) ∧ Below w.heap.size w w' := by
  have d1 : decide ((sectors : Int) < 1) = false := by simp; omega
  have d2 : decide ((65536 : Int) < (sectors : Int)) = false := by simp; omega
  have d3 : decide ((size : Int) < 64) = false := by simp; omega
  have d4 : decide ((1024 : Int) < (size : Int)) = false := by simp; omega
  have hmm := @run_makeMap Try.prog
  go_enter Try.func19, Try.ntmps19
  go_wp2
  go_ret2
  obtain ⟨g0, g1, g2⟩ := heap3 w (.map #[] 0) (.map #[] 0) (Obj.cells #[.int .i64 sectors, .int .i64 size, .map (some w.heap.size), .map (some (w.heap.size + 1)), .bool false, .int .i64 (-1), .int .i64 0] 84)
  refine ⟨_, rfl, ⟨w.heap.size, w.heap.size + 1, 0, 0, fun _ => none, fun _ => none, ?_, Nat.le_refl _⟩, ((((Below.refl _ w).alloc (Nat.le_refl _) _).alloc (by simp) _).alloc (by simp; omega) _)⟩
  have hm : ∀ (W : World) b, W.heap[b]? = some (.map #[] 0) → SMap size W b 0 (fun _ => none) := fun W b hb =>
    ⟨.map [], ⟨#[], 0, hb, ⟨by simp, stamped_empty 0, by simp⟩, Nat.le_refl _, rfl⟩, fun k => ⟨rfl, fun x h => by cases h⟩⟩
  exact { cells := g2, safe := hm _ _ g0, fresh := hm _ _ g1, apart := by omega, safeNone := fun _ _ => rfl, safeRow := fun _ _ h => (by cases h), safeLen := fun _ => by simp [St.new, zeros],
          safeInj := fun _ _ _ h => (by cases h), freshNone := fun _ _ => rfl, freshRow := fun _ _ h => (by cases h), freshIn := fun _ _ h => (by cases h), unlike := fun _ _ _ h => (by cases h),
          inP := by omega, inS := Nat.le_refl _, inF := by omega, inG := fun _ _ h => (by cases h), inH := fun _ _ h => (by cases h), sec1 := h1, sec2 := h2, size1 := h3, size2 := h4, left1 := Int.le_refl _, left2 := (by simp [St.new]) }
set_option maxRecDepth 100000 in
set_option maxHeartbeats 1000000 in
theorem new_bad (sectors size : Int) (h : sectors < 1 ∨ 65536 < sectors ∨ size < 64 ∨ 1024 < size) (w : World) : Calls Try.prog 19 #[.int .i64 sectors, .int .i64 size] w fun e w' => e = .returned (.tuple #[.pointer none, .int .i64 2]) ∧ w' = w := by
  by_cases c1 : sectors < 1
  · go_enter Try.func19, Try.ntmps19
    go_wp2
    go_ret2
    exact ⟨rfl, rfl⟩
  · have d1 : decide (sectors < 1) = false := by simpa using c1
    by_cases c2 : 65536 < sectors
    · go_enter Try.func19, Try.ntmps19
      go_wp2
      go_ret2
      exact ⟨rfl, rfl⟩
    · have d2 : decide (65536 < sectors) = false := by simpa using c2
      by_cases c3 : size < 64
      · go_enter Try.func19, Try.ntmps19
        go_wp2
        go_ret2
        exact ⟨rfl, rfl⟩
      · have d3 : decide (size < 64) = false := by simpa using c3
        have c4 : 1024 < size := by omega
        go_enter Try.func19, Try.ntmps19
        go_wp2
        go_ret2
        exact ⟨rfl, rfl⟩
end
end Go.Proofs.Ytcgjolonapndgaa
