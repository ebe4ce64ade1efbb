/- The contract of page.Write. -/
import Derived.Test.YtcgjolonapndgaaPChk
import Derived.Test.YtcgjolonapndgaaPWrA
namespace Go.Proofs.Ytcgjolonapndgaa
set_option linter.unusedVariables false
open Go.RowKit Go.Maps Go.ChangeMaps Go.MapKept Go.Shelf
/-- The three blocks that the call lays first. -/
theorem three (w : World) (a b c : Obj) : Below w.heap.size w (((w.alloc a).alloc b).alloc c) ∧ (((w.alloc a).alloc b).alloc c).heap[w.heap.size]? = some a ∧ (((w.alloc a).alloc b).alloc c).heap[w.heap.size + 1]? = some b ∧ (((w.alloc a).alloc b).alloc c).heap[w.heap.size + 1 + 1]? = some c ∧ (((w.alloc a).alloc b).alloc c).heap.size = w.heap.size + 3 :=
  ⟨(((Below.refl _ w).alloc (Nat.le_refl _) _).alloc (by simp) _).alloc (by simp; omega) _, (heap3 w a b c).1, (heap3 w a b c).2.1, (heap3 w a b c).2.2, by simp⟩
/-- A box. -/
def Bx (W : World) (b : Nat) (v : Value) (t : TypeId) : Prop := W.heap[b]? = some (.cells #[v] t (0, 0))
theorem Bx.cell {W : World} {b : Nat} {v : Value} {t : TypeId} (h : Bx W b v t) : W.cell? ⟨b, 0, none⟩ = some v ∧ W.frozen? ⟨b, 0, none⟩ = false := by
  unfold Bx at h
  constructor <;> simp [World.cell?, World.frozen?, h]
theorem Bx.keep {W W' : World} {b : Nat} {v : Value} {t : TypeId} (h : Bx W b v t) (e : W'.heap[b]? = W.heap[b]?) : Bx W' b v t := e.trans h
theorem Bx.lt {W : World} {b : Nat} {v : Value} {t : TypeId} (h : Bx W b v t) : b < W.heap.size := (Array.getElem?_eq_some_iff.1 h).1
theorem Bx.set {W : World} {b : Nat} {v : Value} {t : TypeId} (h : Bx W b v t) (u : Value) : Bx (W.setCell ⟨b, 0, none⟩ u) b u t := by
  have hl := h.lt
  unfold Bx at h ⊢
  simp [World.setCell, Array.getElem?_modify, h]
section
variable {w : World} {p : Nat} {F : Nat → Prop} {s : St}

set_option maxRecDepth 100000 in
set_option maxHeartbeats 4000000 in
theorem pwrite_arg (h : IsD w p F s) (per : Int) (kind : Int) (hk : 0 ≤ kind ∧ kind < 256) (id : Nat) (hid : id < 2 ^ 32) (a : Option Addr) (n c : Nat) (c2 : cnt s per ≤ (id : Int)) (c20 : 0 ≤ cnt s per) (c21 : cnt s per ≤ 16384) :
    Calls Try.prog 23 #[.pointer (some ⟨p, 0, none⟩), .int .i64 per, .agg #[.int .u8 kind, .int .u32 id, .slice a n c]] w fun e w' => e = .returned (.int .i64 2) ∧ Below w.heap.size w w' := by
  have d2 : decide (cnt s per ≤ (id : Int)) = true := by simpa using c2
  have hu : IntKind.u32.wrap (cnt s per) = cnt s per := Go.IntWalk.u32_in _ (by omega)
  obtain ⟨hB, hd, hx, hr, hz1⟩ := three w (.cells #[.pointer (some ⟨p, 0, none⟩)] 42) (.cells #[.int .u8 kind, .int .u32 id, .slice a n c] 25) (.cells #[.int .i64 0] 27)
  have hcnt : ∀ W, Below w.heap.size w W → Calls Try.prog 21 #[.pointer (some ⟨p, 0, none⟩), .int .i64 per] W fun e w' => e = .returned (.int .i64 (cnt s per)) ∧ w' = W := fun W hW => count_any (h.grow hW) per

  generalize cnt s per = C at *
  go_enter Try.func23, Try.ntmps23
  go_wp2_with fail

  generalize ((w.alloc (.cells #[.pointer (some ⟨p, 0, none⟩)] 42)).alloc (.cells #[.int .u8 kind, .int .u32 id, .slice a n c] 25)).alloc (.cells #[.int .i64 0] 27) = W1 at *
  replace hd : Bx W1 w.heap.size _ 42 := hd
  replace hx : PageAt W1 (w.heap.size + 1) kind id (.slice a n c) := hx
  replace hr : Bx W1 (w.heap.size + 1 + 1) _ 27 := hr
  obtain ⟨d0, d1⟩ := hd.cell
  obtain ⟨x0, x1, x2⟩ := hx.cells
  obtain ⟨r0, r1⟩ := hr.cell

  go_region_held3 (fun W => W.cell? ⟨w.heap.size + 1, 1, none⟩ = some (.int .u32 id) ∧ W.cell? ⟨w.heap.size, 0, none⟩ = some (.pointer (some ⟨p, 0, none⟩))) (go_keep) (first | (go_at_call 21; refine (hcnt _ (by first | exact hB | exact hB.drew)).mono ?_; rintro e wA ⟨rfl, hwA⟩; subst wA))

  go_wp2_with fail
  try simp only [Exit.inBlock, Exit.then]
  refine bodyPost_ret (v := .int .i64 2) ?_ rfl ?_
  · have hc := (hr.set (.int .i64 2)).cell.1
    simp [results, go_sem, hc]
  exact ⟨rfl, hB.drew.setCell (p := ⟨w.heap.size + 1 + 1, 0, none⟩) (by show _ ≤ w.heap.size + 1 + 1; omega) _⟩
end
end Go.Proofs.Ytcgjolonapndgaa
