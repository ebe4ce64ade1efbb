/- (*evaluation).step. -/
import Derived.Test.YtiajafljgfpdcaaGreatBMp
import Derived.Test.YtiajafljgfpdcaaGreatSSt
import Derived.Test.YtiajafljgfpdcaaGreatQt
namespace Go.Proofs.YtiajafljgfpdcaaGreat
set_option linter.unusedVariables false
open Go.RowKit
/-- Block p is an evaluation. -/
def EvAt (w : World) (p b : Nat) (h : S.Hd) (iv now : Int) : Prop := w.heap[p]? = some (.cells #[.map (some b), .int .i64 h.fo, .int .i64 h.keep, .int .i64 h.nd, .int .i64 h.oe, .int .i64 iv, .int .i64 now] 82 (0, 0))
/-- Block x holds a stand; a result. -/
def SAt (w : World) (x : Nat) (e : Sd) : Prop := w.heap[x]? = some (.cells #[.slice e.sv.a e.sv.n e.sv.c, .int .i64 e.s.x.st, .int .i64 e.s.x.since, .int .i64 e.s.x.fr, .int .i64 e.s.x.quiet, .int .i64 e.s.x.seen, .int .i64 e.s.x.vk, .int .i64 e.s.x.vn, .int .i64 e.s.ah, .bool e.s.sp] 120 (0, 0))
abbrev sO (e : Sd) : Obj := .cells #[.slice e.sv.a e.sv.n e.sv.c, .int .i64 e.s.x.st, .int .i64 e.s.x.since, .int .i64 e.s.x.fr, .int .i64 e.s.x.quiet, .int .i64 e.s.x.seen, .int .i64 e.s.x.vk, .int .i64 e.s.x.vn, .int .i64 e.s.ah, .bool e.s.sp] 120
abbrev rO (e : Rn) : Obj := .cells #[.slice e.sv.a e.sv.n e.sv.c, .int .i64 e.r.k, .int .i64 e.r.vk, .int .i64 e.r.vn] 59
def RAt (w : World) (x : Nat) (e : Rn) : Prop := w.heap[x]? = some (.cells #[.slice e.sv.a e.sv.n e.sv.c, .int .i64 e.r.k, .int .i64 e.r.vk, .int .i64 e.r.vn] 59 (0, 0))
section
variable {w w' : World} {x p b : Nat} {e d : Sd} {r : Rn} {h : S.Hd} {iv now : Int}
theorem EvAt.cells (g : EvAt w p b h iv now) : w.cell? ⟨p, 0, none⟩ = some (.map (some b)) ∧ w.cell? ⟨p, 1, none⟩ = some (.int .i64 h.fo) ∧ w.cell? ⟨p, 2, none⟩ = some (.int .i64 h.keep) ∧ w.cell? ⟨p, 3, none⟩ = some (.int .i64 h.nd) ∧ w.cell? ⟨p, 4, none⟩ = some (.int .i64 h.oe) ∧
    w.cell? ⟨p, 5, none⟩ = some (.int .i64 iv) ∧ w.cell? ⟨p, 6, none⟩ = some (.int .i64 now) := by
  unfold EvAt at g
  simp [World.cell?, g]
theorem EvAt.lt (g : EvAt w p b h iv now) : p < w.heap.size := (Array.getElem?_eq_some_iff.1 g).1
theorem EvAt.keep (g : EvAt w p b h iv now) (e : w'.heap[p]? = w.heap[p]?) : EvAt w' p b h iv now := e.trans g
theorem EvAt.grow (g : EvAt w p b h iv now) (hb : Below w.heap.size w w') : EvAt w' p b h iv now := g.keep (hb.block p g.lt)
theorem RAt.cells (g : RAt w x r) : w.cell? ⟨x, 0, none⟩ = some (.slice r.sv.a r.sv.n r.sv.c) ∧ w.cell? ⟨x, 1, none⟩ = some (.int .i64 r.r.k) ∧ w.cell? ⟨x, 2, none⟩ = some (.int .i64 r.r.vk) ∧ w.cell? ⟨x, 3, none⟩ = some (.int .i64 r.r.vn) := by
  unfold RAt at g
  simp [World.cell?, g]
theorem RAt.lt (g : RAt w x r) : x < w.heap.size := (Array.getElem?_eq_some_iff.1 g).1
theorem RAt.grow (g : RAt w x r) (hb : Below w.heap.size w w') : RAt w' x r := (hb.block x g.lt).trans g
theorem SAt.cells (g : SAt w x e) : w.cell? ⟨x, 0, none⟩ = some (.slice e.sv.a e.sv.n e.sv.c) ∧ w.cell? ⟨x, 1, none⟩ = some (.int .i64 e.s.x.st) ∧ w.cell? ⟨x, 2, none⟩ = some (.int .i64 e.s.x.since) ∧ w.cell? ⟨x, 3, none⟩ = some (.int .i64 e.s.x.fr) ∧ w.cell? ⟨x, 4, none⟩ = some (.int .i64 e.s.x.quiet) ∧
    w.cell? ⟨x, 5, none⟩ = some (.int .i64 e.s.x.seen) ∧ w.cell? ⟨x, 6, none⟩ = some (.int .i64 e.s.x.vk) ∧ w.cell? ⟨x, 7, none⟩ = some (.int .i64 e.s.x.vn) ∧ w.cell? ⟨x, 8, none⟩ = some (.int .i64 e.s.ah) ∧ w.cell? ⟨x, 9, none⟩ = some (.bool e.s.sp) := by
  unfold SAt at g
  simp [World.cell?, g]
theorem SAt.frozen (g : SAt w x e) (i : Nat) : w.frozen? ⟨x, i, none⟩ = false := by
  unfold SAt at g
  simp [World.frozen?, g]
theorem SAt.lt (g : SAt w x e) : x < w.heap.size := (Array.getElem?_eq_some_iff.1 g).1
theorem SAt.keep (g : SAt w x e) (h : w'.heap[x]? = w.heap[x]?) : SAt w' x e := h.trans g
theorem SAt.grow (g : SAt w x e) (hb : Below w.heap.size w w') : SAt w' x e := g.keep (hb.block x g.lt)
theorem sNew (w : World) (e : Sd) : SAt (w.alloc (sO e)) w.heap.size e := by
  show (w.heap.push _)[w.heap.size]? = _
  simp
theorem rNew (w : World) (e : Rn) : RAt (w.alloc (rO e)) w.heap.size e := by
  show (w.heap.push _)[w.heap.size]? = _
  simp
end
/-- The instance of a stand in block x is laid anew. -/
abbrev setI (w : World) (x : Nat) (i : S.Inst) : World := ((((((w.setCell ⟨x, 1, none⟩ (.int .i64 i.st)).setCell ⟨x, 2, none⟩ (.int .i64 i.since)).setCell ⟨x, 3, none⟩ (.int .i64 i.fr)).setCell ⟨x, 4, none⟩ (.int .i64 i.quiet)).setCell ⟨x, 5, none⟩ (.int .i64 i.seen)).setCell ⟨x, 6, none⟩ (.int .i64 i.vk)).setCell ⟨x, 7, none⟩ (.int .i64 i.vn)
theorem sSet {w : World} {x : Nat} {e : Sd} (h : SAt w x e) (y : S.Inst) : SAt (setI w x y) x ⟨e.sv, { e.s with x := y }⟩ := by
  have h0 := S.block_setCell (i := 1) (u := .int .i64 y.st) h
  have h1 := S.block_setCell (i := 2) (u := .int .i64 y.since) h0
  have h2 := S.block_setCell (i := 3) (u := .int .i64 y.fr) h1
  have h3 := S.block_setCell (i := 4) (u := .int .i64 y.quiet) h2
  have h4 := S.block_setCell (i := 5) (u := .int .i64 y.seen) h3
  have h5 := S.block_setCell (i := 6) (u := .int .i64 y.vk) h4
  have h6 := S.block_setCell (i := 7) (u := .int .i64 y.vn) h5
  unfold SAt setI
  rw [h6]
  simp
theorem sMark {w : World} {x : Nat} {e : Sd} (h : SAt w x e) (q : Bool) : SAt (w.setCell ⟨x, 9, none⟩ (.bool q)) x ⟨e.sv, { e.s with sp := q }⟩ := by
  have h0 := S.block_setCell (i := 9) (u := .bool q) h
  unfold SAt
  rw [h0]
  simp
theorem belSetI {w W : World} {x : Nat} {m : Nat} (h : Below m w W) (hx : m ≤ x) (i : S.Inst) : Below m w (setI W x i) :=
  ((((((h.setCell (p := ⟨x, 1, none⟩) hx _).setCell (p := ⟨x, 2, none⟩) hx _).setCell (p := ⟨x, 3, none⟩) hx _).setCell (p := ⟨x, 4, none⟩) hx _).setCell (p := ⟨x, 5, none⟩) hx _).setCell (p := ⟨x, 6, none⟩) hx _).setCell (p := ⟨x, 7, none⟩) hx _
theorem grown_of_turned {w w' w'' : World} {b : Nat} (h : Below w.heap.size w w') (ht : w'.mapTurned w'' b) : w.grownBy w'' (some b) := by
  have hg := ht.grown
  exact ⟨hg.os.trans h.os, hg.tape.trans h.tape, hg.output.trans h.output, Nat.le_trans h.size hg.size, fun k hk hne => (hg.block k (Nat.lt_of_lt_of_le hk h.size) hne).trans (h.block k hk)⟩
set_option maxRecDepth 100000 in
set_option maxHeartbeats 2000000 in
theorem step_any (p b : Nat) (h : S.Hd) (iv now : Int) (ls : List Lb) (r : Rn) (L : List Sd) (s : Sd) (w : World) (he : EvAt w p b h iv now) (hm : MapIs w b L) (hls : IsSet ls) (hg : getG (fun s : Sd => s.s.ls) L ls = some s) (hL : L.length < 1000000)
    (hf : s.s.x.st = 2 → -9223372036854775808 ≤ now - s.s.x.fr ∧ now - s.s.x.fr ≤ 9223372036854775807) (hq : s.s.x.quiet ≠ -1 → -9223372036854775808 ≤ now - s.s.x.quiet ∧ now - s.s.x.quiet ≤ 9223372036854775807) :
    Calls Tryz.prog 35 #[.pointer (some ⟨p, 0, none⟩), .string (keyB ls), encR r] w fun e w' => e = .returned (.tuple #[]) ∧ MapIs w' b (putG (fun s : Sd => s.s.ls) ⟨s.sv, stpA h now r.r s.s⟩ L) ∧ w.grownBy w' (some b) := by
  obtain ⟨⟨ra, rn, rc⟩, rls, rk, rvk, rvn⟩ := r
  have hlook := fun (W : World) (hW : Below w.heap.size w W) => (hm.grow hW).look hls
  rw [hg] at hlook
  simp only [Option.getD_some] at hlook
  have hb0 : Below w.heap.size w (w.alloc (rO ⟨⟨ra, rn, rc⟩, rls, rk, rvk, rvn⟩)) := (Below.refl _ w).alloc (Nat.le_refl _) _
  have hl := hlook _ hb0
  clear hlook
  obtain ⟨c0, c1, c2, c3, c4, c5, c6⟩ := (he.grow hb0).cells
  unfold encR encD at *
  simp only at *
  go_enter Tryz.func35, Tryz.ntmps35
  go_wp2
  have hB1 : Hid (Below w.heap.size w ((w.alloc (rO ⟨⟨ra, rn, rc⟩, rls, rk, rvk, rvn⟩)).alloc (sO s))) := hb0.alloc hb0.size _
  have hS1 : Hid (SAt ((w.alloc (rO ⟨⟨ra, rn, rc⟩, rls, rk, rvk, rvn⟩)).alloc (sO s)) (w.heap.size + 1) s) := by
    have := sNew (w.alloc (rO ⟨⟨ra, rn, rc⟩, rls, rk, rvk, rvn⟩)) s
    rwa [World.size_alloc] at this
  have hR1 : Hid (RAt ((w.alloc (rO ⟨⟨ra, rn, rc⟩, rls, rk, rvk, rvn⟩)).alloc (sO s)) w.heap.size ⟨⟨ra, rn, rc⟩, rls, rk, rvk, rvn⟩) := (rNew w _).grow ((Below.refl _ _).alloc (Nat.le_refl _) _)
  have hsz : ((w.alloc (rO ⟨⟨ra, rn, rc⟩, rls, rk, rvk, rvn⟩)).alloc (sO s)).heap.size = w.heap.size + 2 := by simp
  clear hl c0 c1 c2 c3 c4 c5 c6 hb0
  generalize ((w.alloc (rO ⟨⟨ra, rn, rc⟩, rls, rk, rvk, rvn⟩)).alloc (sO s)) = W1 at *
  have hE1 : Hid (EvAt W1 p b h iv now) := he.grow hB1.out
  obtain ⟨y, hy⟩ : ∃ y, Hid (S.stepI s.s.x h rk rvk rvn now = y) := ⟨_, rfl⟩
  have hk := fun W => S.step17 s.s.x h rk rvk rvn now W hf hq
  rw [hy.out] at hk
  unfold S.encI S.encH S.encV at hk
  have e1 : ∀ q : Bel W1, q.W.cell? ⟨p, 1, none⟩ = some (.int .i64 h.fo) := fun q => (hE1.out.grow q.h).cells.2.1
  have e2 : ∀ q : Bel W1, q.W.cell? ⟨p, 2, none⟩ = some (.int .i64 h.keep) := fun q => (hE1.out.grow q.h).cells.2.2.1
  have e3 : ∀ q : Bel W1, q.W.cell? ⟨p, 3, none⟩ = some (.int .i64 h.nd) := fun q => (hE1.out.grow q.h).cells.2.2.2.1
  have e4 : ∀ q : Bel W1, q.W.cell? ⟨p, 4, none⟩ = some (.int .i64 h.oe) := fun q => (hE1.out.grow q.h).cells.2.2.2.2.1
  have e6 : ∀ q : Bel W1, q.W.cell? ⟨p, 6, none⟩ = some (.int .i64 now) := fun q => (hE1.out.grow q.h).cells.2.2.2.2.2.2
  have s1 : ∀ q : Bel W1, q.W.cell? ⟨w.heap.size + 1, 1, none⟩ = some (.int .i64 s.s.x.st) := fun q => (hS1.out.grow q.h).cells.2.1
  have s2 : ∀ q : Bel W1, q.W.cell? ⟨w.heap.size + 1, 2, none⟩ = some (.int .i64 s.s.x.since) := fun q => (hS1.out.grow q.h).cells.2.2.1
  have s3 : ∀ q : Bel W1, q.W.cell? ⟨w.heap.size + 1, 3, none⟩ = some (.int .i64 s.s.x.fr) := fun q => (hS1.out.grow q.h).cells.2.2.2.1
  have s4 : ∀ q : Bel W1, q.W.cell? ⟨w.heap.size + 1, 4, none⟩ = some (.int .i64 s.s.x.quiet) := fun q => (hS1.out.grow q.h).cells.2.2.2.2.1
  have s5 : ∀ q : Bel W1, q.W.cell? ⟨w.heap.size + 1, 5, none⟩ = some (.int .i64 s.s.x.seen) := fun q => (hS1.out.grow q.h).cells.2.2.2.2.2.1
  have s6 : ∀ q : Bel W1, q.W.cell? ⟨w.heap.size + 1, 6, none⟩ = some (.int .i64 s.s.x.vk) := fun q => (hS1.out.grow q.h).cells.2.2.2.2.2.2.1
  have s7 : ∀ q : Bel W1, q.W.cell? ⟨w.heap.size + 1, 7, none⟩ = some (.int .i64 s.s.x.vn) := fun q => (hS1.out.grow q.h).cells.2.2.2.2.2.2.2.1
  have r1 : ∀ q : Bel W1, q.W.cell? ⟨w.heap.size, 1, none⟩ = some (.int .i64 rk) := fun q => (hR1.out.grow q.h).cells.2.1
  have r2 : ∀ q : Bel W1, q.W.cell? ⟨w.heap.size, 2, none⟩ = some (.int .i64 rvk) := fun q => (hR1.out.grow q.h).cells.2.2.1
  have r3 : ∀ q : Bel W1, q.W.cell? ⟨w.heap.size, 3, none⟩ = some (.int .i64 rvn) := fun q => (hR1.out.grow q.h).cells.2.2.2
  refine Yquiettail.region_tail (C := fun W => ∃ p : Bel W1, W = p.W) 18 (by kernel_rfl) (by kernel_rfl) ⟨⟨W1.drew, (Below.refl _ _).drew⟩, rfl⟩ ?_
  dsimp only [List.take, List.drop]
  repeat (go_big_quiet_step (first | (go_at_call 67; exact Calls.bel (hk _))))
  refine wpQuiet_nil ?_
  rintro w5 ⟨⟨wz, h5⟩, rfl⟩
  replace h5 : Hid (Below W1.heap.size W1 w5) := h5
  clear e1 e2 e3 e4 e6 s1 s2 s3 s4 s5 s6 s7 r1 r2 r3 hk
  have hS5 := hS1.out.grow h5.out
  have f5 := hS5.frozen
  have hB5 : Hid (Below w.heap.size w w5) := hB1.out.trans (h5.out.mono hB1.out.size)
  obtain ⟨s0, s1, s2, s3, s4, s5, s6, s7, s8, s9⟩ := hS5.cells
  have hS6 : Hid (SAt ((setI w5 (w.heap.size + 1) y).setCell ⟨w.heap.size + 1, 9, none⟩ (.bool true)) (w.heap.size + 1) ⟨s.sv, ⟨s.s.ls, y, s.s.ah, true⟩⟩) := sMark (sSet hS5 y) true
  have hB6 : Hid (Below w.heap.size w ((setI w5 (w.heap.size + 1) y).setCell ⟨w.heap.size + 1, 9, none⟩ (.bool true))) := (belSetI hB5.out (by omega) y).setCell (p := ⟨w.heap.size + 1, 9, none⟩) (by show _ ≤ w.heap.size + 1; omega) _
  go_wp2
  clear s0 s1 s2 s3 s4 s5 s6 s7 s8 s9 f5 hS5
  generalize ((setI w5 (w.heap.size + 1) y).setCell ⟨w.heap.size + 1, 9, none⟩ (.bool true)) = W6 at *
  have hE6 : Hid (EvAt W6 p b h iv now) := he.grow hB6.out
  have hM6 : Hid (MapIs W6 b L) := hm.grow hB6.out
  have e0 : ∀ q : Bel W6, q.W.cell? ⟨p, 0, none⟩ = some (.map (some b)) := fun q => (hE6.out.grow q.h).cells.1
  have s0 : ∀ q : Bel W6, q.W.cell? ⟨w.heap.size + 1, 0, none⟩ = some (.slice s.sv.a s.sv.n s.sv.c) := fun q => (hS6.out.grow q.h).cells.1
  have s1 : ∀ q : Bel W6, q.W.cell? ⟨w.heap.size + 1, 1, none⟩ = some (.int .i64 y.st) := fun q => (hS6.out.grow q.h).cells.2.1
  have s2 : ∀ q : Bel W6, q.W.cell? ⟨w.heap.size + 1, 2, none⟩ = some (.int .i64 y.since) := fun q => (hS6.out.grow q.h).cells.2.2.1
  have s3 : ∀ q : Bel W6, q.W.cell? ⟨w.heap.size + 1, 3, none⟩ = some (.int .i64 y.fr) := fun q => (hS6.out.grow q.h).cells.2.2.2.1
  have s4 : ∀ q : Bel W6, q.W.cell? ⟨w.heap.size + 1, 4, none⟩ = some (.int .i64 y.quiet) := fun q => (hS6.out.grow q.h).cells.2.2.2.2.1
  have s5 : ∀ q : Bel W6, q.W.cell? ⟨w.heap.size + 1, 5, none⟩ = some (.int .i64 y.seen) := fun q => (hS6.out.grow q.h).cells.2.2.2.2.2.1
  have s6 : ∀ q : Bel W6, q.W.cell? ⟨w.heap.size + 1, 6, none⟩ = some (.int .i64 y.vk) := fun q => (hS6.out.grow q.h).cells.2.2.2.2.2.2.1
  have s7 : ∀ q : Bel W6, q.W.cell? ⟨w.heap.size + 1, 7, none⟩ = some (.int .i64 y.vn) := fun q => (hS6.out.grow q.h).cells.2.2.2.2.2.2.2.1
  have s8 : ∀ q : Bel W6, q.W.cell? ⟨w.heap.size + 1, 8, none⟩ = some (.int .i64 s.s.ah) := fun q => (hS6.out.grow q.h).cells.2.2.2.2.2.2.2.2.1
  have s9 : ∀ q : Bel W6, q.W.cell? ⟨w.heap.size + 1, 9, none⟩ = some (.bool true) := fun q => (hS6.out.grow q.h).cells.2.2.2.2.2.2.2.2.2
  refine Yquiettail.region_tail (C := fun W => ∃ p : Bel W6, W = p.W) 6 (by kernel_rfl) (by kernel_rfl) ⟨⟨W6.drew, (Below.refl _ _).drew⟩, rfl⟩ ?_
  dsimp only [List.take, List.drop]
  repeat (go_big_quiet_step (fail))
  refine wpQuiet_nil ?_
  rintro w8 ⟨⟨wy, h8⟩, rfl⟩
  replace h8 : Below W6.heap.size W6 w8 := h8
  clear e0 s0 s1 s2 s3 s4 s5 s6 s7 s8 s9
  obtain ⟨hmem, hsls⟩ := getG_some hg
  obtain ⟨w9, hrun, hM9, ht9⟩ := (hM6.out.grow h8).update hL ⟨s.sv, ⟨s.s.ls, y, s.s.ah, true⟩⟩ (by simp only [hsls]; exact hls)
  have hB8 : Below w.heap.size w w8 := hB6.out.trans (h8.mono hB6.out.size)
  have hG9 : Hid (w.grownBy w9 (some b)) := grown_of_turned hB8 ht9
  have hQ9 : Hid (MapIs w9 b (putG (fun s : Sd => s.s.ls) ⟨s.sv, stpA h now ⟨rls, rk, rvk, rvn⟩ s.s⟩ L)) := by
    unfold stpA
    simp only [hy.out]
    exact hM9
  unfold encD at hrun
  simp only [hsls] at hrun
  clear hM9 ht9
  go_wp2
  go_end0
  exact ⟨rfl, hQ9.out, hG9.out⟩
end Go.Proofs.YtiajafljgfpdcaaGreat
