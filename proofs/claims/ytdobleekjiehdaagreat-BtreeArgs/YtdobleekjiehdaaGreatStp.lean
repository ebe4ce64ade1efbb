/- Paths; the contract of step, at a leaf. -/
import Derived.Test.YtdobleekjiehdaaGreatSek
namespace Go.Proofs.YtdobleekjiehdaaGreat
set_option linter.unusedVariables false
open Go.RowKit
/-- What may turn: blocks of F, and new ones. -/
structure Fm (F : Nat → Prop) (w w' : World) : Prop where
  os : w'.os = w.os
  tape : w'.tape = w.tape
  output : w'.output = w.output
  size : w.heap.size ≤ w'.heap.size
  block : ∀ k, k < w.heap.size → ¬ F k → w'.heap[k]? = w.heap[k]?
theorem Fm.refl (F : Nat → Prop) (w : World) : Fm F w w := ⟨rfl, rfl, rfl, Nat.le_refl _, fun _ _ _ => rfl⟩
theorem Fm.trans {F G : Nat → Prop} {a b c : World} (h : Fm F a b) (k : Fm G b c) (hG : ∀ j, G j → F j ∨ a.heap.size ≤ j) : Fm F a c :=
  ⟨k.os.trans h.os, k.tape.trans h.tape, k.output.trans h.output, Nat.le_trans h.size k.size, fun i hi hF =>
    (k.block i (Nat.lt_of_lt_of_le hi h.size) (fun hg => by rcases hG i hg with h1 | h1; exact hF h1; omega)).trans (h.block i hi hF)⟩
theorem Fm.of_grown {F : Nat → Prop} {w w' : World} {row : Option Nat} (h : w.grownBy w' row) (hF : ∀ j, row = some j → F j ∨ w.heap.size ≤ j) : Fm F w w' :=
  ⟨h.os, h.tape, h.output, h.size, fun k hk hn => h.block k hk (fun e => by rcases hF k e.symm with h1 | h1; exact hn h1; omega)⟩
theorem Fm.of_below {w w' : World} (h : Below w.heap.size w w') (F : Nat → Prop) : Fm F w w' := ⟨h.os, h.tape, h.output, h.size, fun k hk _ => h.block k hk⟩
theorem Fm.below {F : Nat → Prop} {B : Nat} {w w' : World} (h : Fm F w w') (hB : B ≤ w.heap.size) (hF : ∀ k, F k → B ≤ k) : Below B w w' :=
  ⟨h.os, h.tape, h.output, h.size, fun k hk => h.block k (by omega) (fun hf => by have := hF k hf; omega)⟩
theorem Fm.set {F : Nat → Prop} {w W : World} (h : Fm F w W) (b i : Nat) (u : Value) (hb : F b ∨ w.heap.size ≤ b) : Fm F w (W.setCell ⟨b, i, none⟩ u) :=
  h.trans (F := F) (G := fun k => k = b) ⟨rfl, rfl, rfl, by simp, fun k _ hk => Below.heap_setCell _ _ _ _ hk⟩ (fun j hj => by rw [hj]; exact hb)
/-- A branch's value. -/
def brV (id keys : Nat) : Value := .agg #[.int .i64 id, .int .i64 1, .int .i64 keys, .string ⟨#[]⟩, .string ⟨#[]⟩]
/-- A path in block q: its walk, its steps, whether the key is there. -/
def PathAt (w : World) (q p : Nat) (vS : Value) (th : Bool) : Prop := w.heap[q]? = some (.cells #[.pointer (some ⟨p, 0, none⟩), vS, .bool th] 79 (0, 0))
/-- What seek tells. -/
def SeekP (l : List Cl) (k : ByteArray) (i : Nat) (fd : Bool) : Prop := i ≤ l.length ∧ fd = decide (i < l.length ∧ kCmp (l.getD i cl0).key k = 0) ∧ (i = 0 ∨ kCmp (l.getD (i - 1) cl0).key k < 0) ∧ (i = l.length ∨ 0 ≤ kCmp (l.getD i cl0).key k)
section
variable {w : World} {m most size : Nat} {ps : List ByteArray}
theorem PathAt.cells {q p : Nat} {vS : Value} {th : Bool} (h : PathAt w q p vS th) : (w.cell? ⟨q, 0, none⟩ = some (.pointer (some ⟨p, 0, none⟩)) ∧ w.cell? ⟨q, 1, none⟩ = some vS ∧ w.cell? ⟨q, 2, none⟩ = some (.bool th)) ∧ ∀ i, w.frozen? ⟨q, i, none⟩ = false := by
  unfold PathAt at h
  refine ⟨⟨?_, ?_, ?_⟩, fun i => ?_⟩ <;> simp [World.cell?, World.frozen?, h]
theorem PathAt.keep {W : World} {q p : Nat} {vS : Value} {th : Bool} (h : PathAt w q p vS th) (e : W.heap[q]? = w.heap[q]?) : PathAt W q p vS th := e.trans h
theorem PathAt.lt {q p : Nat} {vS : Value} {th : Bool} (h : PathAt w q p vS th) : q < w.heap.size := lt_of_block h
theorem cells7 {b : Nat} {a0 a1 a2 a3 a4 a5 a6 : Value} {t : TypeId} (h : w.heap[b]? = some (.cells #[a0, a1, a2, a3, a4, a5, a6] t (0, 0))) : (w.cell? ⟨b, 0, none⟩ = some a0 ∧ w.cell? ⟨b, 1, none⟩ = some a1 ∧ w.cell? ⟨b, 2, none⟩ = some a2 ∧ w.cell? ⟨b, 3, none⟩ = some a3) ∧ (w.cell? ⟨b, 4, none⟩ = some a4 ∧ w.cell? ⟨b, 5, none⟩ = some a5 ∧ w.cell? ⟨b, 6, none⟩ = some a6) ∧ ∀ i, w.frozen? ⟨b, i, none⟩ = false := by
  refine ⟨⟨?_, ?_, ?_, ?_⟩, ⟨?_, ?_, ?_⟩, fun i => ?_⟩ <;> simp [World.cell?, World.frozen?, h]
theorem cells5 {b : Nat} {a0 a1 a2 a3 a4 : Value} {t : TypeId} (h : w.heap[b]? = some (.cells #[a0, a1, a2, a3, a4] t (0, 0))) : w.cell? ⟨b, 0, none⟩ = some a0 ∧ w.cell? ⟨b, 1, none⟩ = some a1 ∧ w.cell? ⟨b, 2, none⟩ = some a2 ∧ w.cell? ⟨b, 3, none⟩ = some a3 ∧ w.cell? ⟨b, 4, none⟩ = some a4 := by
  refine ⟨?_, ?_, ?_, ?_, ?_⟩ <;> simp [World.cell?, h]
theorem OwnC.set {base b i : Nat} {v u : Value} {l : List Cl} (h : OwnC w base v l) (hb : b < base) : OwnC (w.setCell ⟨b, i, none⟩ u) base v l := h.kept (grownBy_set (Below.refl _ w) b i u) hb
theorem PathAt.other {q p b i : Nat} {vS u : Value} {th : Bool} (h : PathAt w q p vS th) (hb : q ≠ b) : PathAt (w.setCell ⟨b, i, none⟩ u) q p vS th := (Below.heap_setCell _ _ _ _ hb).trans h
theorem Met.set {mb b i n : Nat} {u : Value} {S : Int → Bool} (h : Met w mb n S) (hb : mb ≠ b) : Met (w.setCell ⟨b, i, none⟩ u) mb n S := h.keep (Below.heap_setCell _ _ _ _ hb)
set_option maxRecDepth 100000 in
set_option maxHeartbeats 4000000 in
theorem step_ok {q p room mb n : Nat} {vS : Value} {th : Bool} {S : Int → Bool} (hq : PathAt w q p vS th) (id keys : Nat) (l : List Cl) (k : ByteArray) (hll : l.length ≤ 8000000) (hmap : ∃ es clock, w.heap[mb]? = some (.map es clock))
    (hnd : ∀ W, Below w.heap.size w W → Calls Tryz.prog 58 #[.pointer (some ⟨p, 0, none⟩), .agg #[.int .i64 id, .int .i64 1, .int .i64 keys, .string ⟨#[]⟩, .string ⟨#[]⟩]] W fun e w' => ∃ v, e = .returned (.tuple #[v, .int .i64 0]) ∧ OwnC w' W.heap.size v l ∧ Met w' mb (n + 1) S ∧ W.grownBy w' (some mb)) :
    Calls Tryz.prog 56 #[.pointer (some ⟨q, 0, none⟩), .agg #[.int .i64 id, .int .i64 1, .int .i64 keys, .string ⟨#[]⟩, .string ⟨#[]⟩], .string k] w fun e w' => ∃ v i fd, e = .returned (.tuple #[.agg #[.int .i64 id, .int .i64 1, .int .i64 keys, .string ⟨#[]⟩, .string ⟨#[]⟩, v, .int .i64 (i : Nat)], .int .i64 0]) ∧ OwnC w' w.heap.size v l ∧ SeekP l k i fd ∧ PathAt w' q p vS fd ∧ Met w' mb (n + 1) S ∧ Fm (fun b => b = q ∨ b = mb) w w' := by
  have hB1 : Below w.heap.size w (w.alloc (.cells #[.int .i64 id, .int .i64 1, .int .i64 keys, .string ⟨#[]⟩, .string ⟨#[]⟩] 99)) := (Below.refl _ w).alloc (Nat.le_refl _) _
  have hB2 := hB1.alloc hB1.size (.cells #[.int .i64 0, .int .i64 0, .int .i64 0, .string ⟨#[]⟩, .string ⟨#[]⟩, .slice none 0 0, .int .i64 0] 102)
  have hx : ((w.alloc (.cells #[.int .i64 id, .int .i64 1, .int .i64 keys, .string ⟨#[]⟩, .string ⟨#[]⟩] 99)).alloc (.cells #[.int .i64 0, .int .i64 0, .int .i64 0, .string ⟨#[]⟩, .string ⟨#[]⟩, .slice none 0 0, .int .i64 0] 102)).heap[w.heap.size]? = some (.cells #[.int .i64 id, .int .i64 1, .int .i64 keys, .string ⟨#[]⟩, .string ⟨#[]⟩] 99 (0, 0)) := (((Below.refl _ _).alloc (Nat.le_refl _) _).block _ (by simp)).trans (heap_alloc_new w _)
  have hr : ((w.alloc (.cells #[.int .i64 id, .int .i64 1, .int .i64 keys, .string ⟨#[]⟩, .string ⟨#[]⟩] 99)).alloc (.cells #[.int .i64 0, .int .i64 0, .int .i64 0, .string ⟨#[]⟩, .string ⟨#[]⟩, .slice none 0 0, .int .i64 0] 102)).heap[w.heap.size + 1]? = some (.cells #[.int .i64 0, .int .i64 0, .int .i64 0, .string ⟨#[]⟩, .string ⟨#[]⟩, .slice none 0 0, .int .i64 0] 102 (0, 0)) := by
    have := heap_alloc_new (w.alloc (.cells #[.int .i64 id, .int .i64 1, .int .i64 keys, .string ⟨#[]⟩, .string ⟨#[]⟩] 99)) (.cells #[.int .i64 0, .int .i64 0, .int .i64 0, .string ⟨#[]⟩, .string ⟨#[]⟩, .slice none 0 0, .int .i64 0] 102)
    rwa [World.size_alloc] at this
  have hz : ((w.alloc (.cells #[.int .i64 id, .int .i64 1, .int .i64 keys, .string ⟨#[]⟩, .string ⟨#[]⟩] 99)).alloc (.cells #[.int .i64 0, .int .i64 0, .int .i64 0, .string ⟨#[]⟩, .string ⟨#[]⟩, .slice none 0 0, .int .i64 0] 102)).heap.size = w.heap.size + 2 := by simp
  go_enter Tryz.func56, Tryz.ntmps56
  go_wp2_with fail
  generalize (w.alloc (.cells #[.int .i64 id, .int .i64 1, .int .i64 keys, .string ⟨#[]⟩, .string ⟨#[]⟩] 99)).alloc (.cells #[.int .i64 0, .int .i64 0, .int .i64 0, .string ⟨#[]⟩, .string ⟨#[]⟩, .slice none 0 0, .int .i64 0] 102) = W1 at *
  have hq1 := hq.keep (hB2.block _ hq.lt)
  obtain ⟨⟨q0, q1, q2⟩, qf⟩ := hq1.cells
  obtain ⟨x0, x1, x2, x3, x4⟩ := cells5 hx
  have hmap1 : ∃ es clock, W1.heap[mb]? = some (.map es clock) := by
    obtain ⟨es, clock, hm⟩ := hmap
    exact ⟨es, clock, (hB2.block _ (Array.getElem?_eq_some_iff.1 hm |>.1)).trans hm⟩
  go_region_held3 (fun W => W.cell? ⟨q, 0, none⟩ = some (.pointer (some ⟨p, 0, none⟩)) ∧ W.cell? ⟨w.heap.size, 0, none⟩ = some (.int .i64 id) ∧ W.cell? ⟨w.heap.size, 1, none⟩ = some (.int .i64 1) ∧ W.cell? ⟨w.heap.size, 2, none⟩ = some (.int .i64 keys) ∧ W.cell? ⟨w.heap.size, 3, none⟩ = some (.string ⟨#[]⟩) ∧ W.cell? ⟨w.heap.size, 4, none⟩ = some (.string ⟨#[]⟩)) (first | go_keep | exact ⟨r0, y0, y1, y2, y3, y4⟩) (first
    | (go_at_call 58; refine (hnd _ (by first | exact hB2 | exact hB2.drew)).mono ?_; rintro e w2 ⟨v2, rfl, ho2, hm2, hg2⟩; have hg2' : W1.grownBy w2 (some mb) := ⟨hg2.os, hg2.tape, hg2.output, hg2.size, hg2.block⟩; have hx2 := grown_cells hg2' hmap1 hx; have hq2 : PathAt w2 q p vS th := grown_cells hg2' hmap1 hq1; have hr2 := grown_cells hg2' hmap1 hr; obtain ⟨⟨r0, r1, r2⟩, rf⟩ := hq2.cells; obtain ⟨y0, y1, y2, y3, y4⟩ := cells5 hx2))
  obtain ⟨a2, c2, rfl⟩ := ho2.shape
  obtain ⟨N, hN⟩ : ∃ N, Hid (N = l.length) := ⟨_, rfl⟩
  rw [← hN.out] at ho2 ⊢
  have hsk := seek_any (w := w2) a2 N c2 l k ho2.cells hll
  have hs2 := hg2'.size
  have hql := hq.lt
  have hne1 : q ≠ w.heap.size := by omega
  have hne2 : q ≠ w.heap.size + 1 := by omega
  have hkw : ∀ W, Below w2.heap.size w2 W → OwnC W w2.heap.size (.slice a2 N c2) l ∨ True := fun _ _ => .inr trivial
  clear hkw x0 x1 x2 x3 x4 q0 q1 q2 qf
  go_wp2_with (first
    | (go_at_call 67; refine hsk.mono ?_; rintro e w3 ⟨⟨i, hi, he, s1, s2⟩, hb3⟩; generalize hfd : decide (i < l.length ∧ kCmp (l.getD i cl0).key k = 0) = fd at he; replace hfd : Hid _ := hfd; subst he; have hq3 := hq2.keep (hb3.block _ hq2.lt); have hx3 := (hb3.block _ (lt_of_block hx2)).trans hx2; have hr3 := (hb3.block _ (lt_of_block hr2)).trans hr2; obtain ⟨⟨u0, u1, u2⟩, uf⟩ := hq3.cells; have uf2 := uf 2; obtain ⟨b0, b1, b2, b3, b4⟩ := cells5 hx3; obtain ⟨⟨d0, d1, d2, d3⟩, ⟨d4, d5, d6⟩, df⟩ := cells7 hr3; have df0 := df 0; have df1 := df 1; have df2 := df 2; have df3 := df 3; have df4 := df 4; have df5 := df 5; have df6 := df 6; clear uf df))
  have hh0 : (w3.setCell ⟨q, 2, none⟩ (.bool fd)).heap[w.heap.size + 1]? = some (.cells #[.int .i64 0, .int .i64 0, .int .i64 0, .string ⟨#[]⟩, .string ⟨#[]⟩, .slice none 0 0, .int .i64 0] 102 (0, 0)) := (Below.heap_setCell _ _ _ _ (by show _ ≠ q; omega)).trans hr3
  have hrF : _ = some (Obj.cells #[.int .i64 id, .int .i64 1, .int .i64 keys, .string ⟨#[]⟩, .string ⟨#[]⟩, .slice a2 N c2, .int .i64 (i : Nat)] 102 (0, 0)) := (block_setCell (i := 6) (u := .int .i64 (i : Nat)) (block_setCell (i := 5) (u := .slice a2 N c2) (block_setCell (i := 4) (u := .string ⟨#[]⟩) (block_setCell (i := 3) (u := .string ⟨#[]⟩) (block_setCell (i := 2) (u := .int .i64 keys) (block_setCell (i := 1) (u := .int .i64 1) (block_setCell (i := 0) (u := .int .i64 id) hh0)))))))
  obtain ⟨⟨f0, f1, f2, f3⟩, ⟨f4, f5, f6⟩, _⟩ := cells7 hrF
  have hmq0 : q ≠ mb := fun e => by
    obtain ⟨es, clock, hm⟩ := hmap
    rw [← e] at hm
    unfold PathAt at hq
    rw [hq] at hm
    cases hm
  have hml : mb < w.heap.size := by
    obtain ⟨es, clock, hm⟩ := hmap
    exact (Array.getElem?_eq_some_iff.1 hm).1
  have ho3 : OwnC w3 W1.heap.size (.slice a2 N c2) l := World.ownsRow.kept (row := none) ho2 ⟨hb3.os, hb3.tape, hb3.output, hb3.size, fun k hk _ => hb3.block k hk⟩ (by cases (Value.slice a2 N c2).ownBlock <;> simp)
  have hoq : OwnC (w3.setCell ⟨q, 2, none⟩ (.bool fd)) W1.heap.size (.slice a2 N c2) l := OwnC.set ho3 (by omega)
  have hpq : PathAt (w3.setCell ⟨q, 2, none⟩ (.bool fd)) q p vS fd := block_setCell (i := 2) (u := .bool fd) hq3
  have hm3 := hm2.keep (hb3.block _ hm2.lt)
  have hmq : Met (w3.setCell ⟨q, 2, none⟩ (.bool fd)) mb (n + 1) S := Met.set hm3 (by omega)
  have hfq : Fm (fun b => b = q ∨ b = mb) w (w3.setCell ⟨q, 2, none⟩ (.bool fd)) := Fm.set ((((Fm.of_below hB2 _).trans (Fm.of_grown (F := fun b => b = mb) hg2' (fun j e => .inl (by cases e; rfl))) (fun j hj => .inl (.inr hj)))).trans (Fm.of_below hb3 (fun _ => False)) (fun j hj => hj.elim)) q 2 _ (.inl (.inl rfl))
  refine bodyPost_ret (v := .tuple #[.agg #[.int .i64 id, .int .i64 1, .int .i64 keys, .string ⟨#[]⟩, .string ⟨#[]⟩, .slice a2 N c2, .int .i64 (i : Nat)], .int .i64 0]) ?_ rfl ⟨.slice a2 N c2, i, fd, rfl, ?_, ⟨hi, hfd.out.symm, s1, s2⟩, (PathAt.other ((PathAt.other ((PathAt.other ((PathAt.other ((PathAt.other ((PathAt.other ((PathAt.other (hpq) hne2)) hne2)) hne2)) hne2)) hne2)) hne2)) hne2), (Met.set ((Met.set ((Met.set ((Met.set ((Met.set ((Met.set ((Met.set (hmq) (by omega))) (by omega))) (by omega))) (by omega))) (by omega))) (by omega))) (by omega)), (Fm.set ((Fm.set ((Fm.set ((Fm.set ((Fm.set ((Fm.set ((Fm.set (hfq) (w.heap.size + 1) 0 (.int .i64 id) (.inr (by omega)))) (w.heap.size + 1) 1 (.int .i64 1) (.inr (by omega)))) (w.heap.size + 1) 2 (.int .i64 keys) (.inr (by omega)))) (w.heap.size + 1) 3 (.string ⟨#[]⟩) (.inr (by omega)))) (w.heap.size + 1) 4 (.string ⟨#[]⟩) (.inr (by omega)))) (w.heap.size + 1) 5 (.slice a2 N c2) (.inr (by omega)))) (w.heap.size + 1) 6 (.int .i64 (i : Nat)) (.inr (by omega)))⟩
  · rw [results_cell_tmp rfl]
    simp [asAddr, Result.andThen, go_sem, f0, f1, f2, f3, f4, f5, f6]
  · exact OwnC.wide (OwnC.set ((OwnC.set ((OwnC.set ((OwnC.set ((OwnC.set ((OwnC.set ((OwnC.set (hoq) (by omega))) (by omega))) (by omega))) (by omega))) (by omega))) (by omega))) (by omega)) (by omega)
end
end Go.Proofs.YtdobleekjiehdaaGreat
