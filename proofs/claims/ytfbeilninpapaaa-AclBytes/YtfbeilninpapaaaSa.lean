/- The document's Same, of folders that are the same; bytes that came in. -/
import Derived.Test.YtfbeilninpapaaaGw
import Derived.Test.YtfbeilninpapaaaAr
namespace Go.Proofs.Ytfbeilninpapaaa
set_option linter.unusedVariables false
open Go.RowKit Go.ChangeShapes Go.WideShapes Go.ChangeAt Go.Deep
set_option maxRecDepth 100000 in
set_option maxHeartbeats 4000000 in
theorem same_eq (m : ByteArray) (va vb : Value) (l : List Gr) (z : Int) (w : World) (ha : Grs w va l) (hb : Grs w vb l) (hl : l.length ≤ 1000000000000000) :
    Calls Try.prog 21 #[.agg #[.string m, va, .int .i64 z], .agg #[.string m, vb, .int .i64 z]] w fun e w' => e = .returned (.bool true) ∧ Below w.heap.size w w' := by
  obtain ⟨a1, c1, rfl⟩ := ha.shape
  obtain ⟨a2, c2, rfl⟩ := hb.shape
  have hB0 : Hid (Below w.heap.size w ((w.alloc (.cells #[.string m, .slice a1 l.length c1, .int .i64 z] 39)).alloc (.cells #[.string m, .slice a2 l.length c2, .int .i64 z] 39))) := ((Below.refl _ _).alloc (Nat.le_refl _) _).alloc (by simp) _
  have hak : Hid (∀ W, Below w.heap.size w W → Grs W (.slice a1 l.length c1) l) := fun W h => ha.grow h
  have hbk : Hid (∀ W, Below w.heap.size w W → Grs W (.slice a2 l.length c2) l) := fun W h => hb.grow h
  have hca : Hid (∀ W, Below (w.heap.size + 2) ((w.alloc (.cells #[.string m, .slice a1 l.length c1, .int .i64 z] 39)).alloc (.cells #[.string m, .slice a2 l.length c2, .int .i64 z] 39)) W → W.cell? ⟨w.heap.size, 1, none⟩ = some (.slice a1 l.length c1) ∧ W.cell? ⟨w.heap.size + 1, 1, none⟩ = some (.slice a2 l.length c2)) := fun W h => ⟨(h.cell (p := ⟨w.heap.size, 1, none⟩) (by show w.heap.size < _; omega)).trans (by simp), (h.cell (p := ⟨w.heap.size + 1, 1, none⟩) (by show w.heap.size + 1 < _; omega)).trans (by simp)⟩
  have e1 : (m.toList == m.toList) = true := by simp
  have e2 : (z == z) = true := by simp
  have e3 : (z != z) = false := by simp
  have e4 : ((l.length : Int) == (l.length : Int)) = true := by simp
  have e5 : ((l.length : Int) != (l.length : Int)) = false := by simp
  clear ha hb
  go_enter Try.func21, Try.ntmps21
  go_wp2
  go_loopw [5] (fun i wr => ∃ k : Nat, k ≤ l.length ∧ i = .int .i64 k ∧ Hid (Below (w.heap.size + 2) ((w.alloc (.cells #[.string m, .slice a1 l.length c1, .int .i64 z] 39)).alloc (.cells #[.string m, .slice a2 l.length c2, .int .i64 z] 39)) wr)) (fun i _ => l.length - (intOf i).toNat)
  case atStart => exact ⟨0, Nat.zero_le _, rfl, Below.refl _ _⟩
  case round =>
    obtain ⟨k, hk, rfl, hB⟩ := hrel
    have hBw : Hid (Below w.heap.size w wr) := hB0.out.trans (hB.out.mono (by omega))
    have hs : w.heap.size + 2 ≤ wr.heap.size := by have := hB.out.size; simp at this; omega
    have q1 := (hca.out wr hB.out).1
    have q2 := (hca.out wr hB.out).2
    by_cases hlt : k < l.length
    · have hki : (k : Int) < (l.length : Int) := by omega
      obtain ⟨b, o, rfl, x0, x1, x2⟩ := gr_at (hak.out wr hBw.out) k hlt
      obtain ⟨b', o', rfl, y0, y1, y2⟩ := gr_at (hbk.out wr hBw.out) k hlt
      generalize l.getD k gr0 = g at *
      obtain ⟨gk, gm, gl⟩ := g
      simp only at x0 x1 x2 y0 y1 y2
      have c0 : ∀ p : Bel wr, p.W.cell? ⟨b, o + k * 3, none⟩ = some (.int .i64 gk) := fun p => p.cell x0
      have c1' : ∀ p : Bel wr, p.W.cell? ⟨b, o + k * 3 + 1, none⟩ = some (.string gm) := fun p => p.cell x1
      have c2' : ∀ p : Bel wr, p.W.cell? ⟨b, o + k * 3 + 2, none⟩ = some (.int .i64 gl) := fun p => p.cell x2
      have d0 : ∀ p : Bel wr, p.W.cell? ⟨b', o' + k * 3, none⟩ = some (.int .i64 gk) := fun p => p.cell y0
      have d1 : ∀ p : Bel wr, p.W.cell? ⟨b', o' + k * 3 + 1, none⟩ = some (.string gm) := fun p => p.cell y1
      have d2 : ∀ p : Bel wr, p.W.cell? ⟨b', o' + k * 3 + 2, none⟩ = some (.int .i64 gl) := fun p => p.cell y2
      have p1 : ∀ p : Bel wr, p.W.cell? ⟨w.heap.size, 1, none⟩ = some (.slice (some ⟨b, o, none⟩) l.length c1) := fun p => p.cell q1
      have p2 : ∀ p : Bel wr, p.W.cell? ⟨w.heap.size + 1, 1, none⟩ = some (.slice (some ⟨b', o', none⟩) l.length c2) := fun p => p.cell q2
      have g1 : (gk == gk) = true := by simp
      have g2 : (gm.toList == gm.toList) = true := by simp
      have g3 : (gl == gl) = true := by simp
      clear x0 x1 x2 y0 y1 y2
      go_wp2
      refine wp_region_bel (by kernel_rfl) (by kernel_rfl) ?_
      repeat (go_big_quiet_step (fail))
      refine wpQuiet_nil ?_
      rintro wq ⟨p, hp⟩
      have hq : Below wr.heap.size wr wq := by rw [hp]; exact p.h
      clear hp
      go_wp2
      refine ⟨⟨k + 1, by omega, by go_num, hB.out.trans (hq.mono hs)⟩, ?_⟩
      simp [intOf]; omega
    · obtain rfl : l.length = k := by omega
      have hki : ¬ (l.length : Int) < (l.length : Int) := by omega
      go_wp2
      go_ret
      exact ⟨rfl, hBw.out⟩
end Go.Proofs.Ytfbeilninpapaaa
