/- The contract of page.Write, further. -/
import Derived.Test.YtcgjolonapndgaaPWri
namespace Go.Proofs.Ytcgjolonapndgaa
set_option linter.unusedVariables false
open Go.RowKit Go.Maps Go.ChangeMaps Go.MapKept Go.Shelf
section
variable {w : World} {p : Nat} {F : Nat → Prop} {s : St}

set_option maxRecDepth 100000 in
set_option maxHeartbeats 4000000 in
theorem pwrite_bad (h : IsD w p F s) (per : Int) (kind : Int) (hk : 0 ≤ kind ∧ kind < 256) (id : Nat) (hid : id < 2 ^ 32) (a : Option Addr) (n c : Nat) (c2 : ¬ cnt s per ≤ (id : Int)) (c21 : cnt s per ≤ 16384) (hpw : IntKind.i64.wrap (per * (s.size : Int)) = per * (s.size : Int)) (c3 : putE (per * s.size) kind n ≠ 0) :
    Calls Try.prog 23 #[.pointer (some ⟨p, 0, none⟩), .int .i64 per, .agg #[.int .u8 kind, .int .u32 id, .slice a n c]] w fun e w' => e = .returned (.int .i64 (putE (per * s.size) kind n)) ∧ Below w.heap.size w w' := by
  have d2 : decide (cnt s per ≤ (id : Int)) = false := by simpa using c2
  have hu : IntKind.u32.wrap (cnt s per) = cnt s per := Go.IntWalk.u32_in _ (by omega)
  obtain ⟨hB, hd, hx, hr, hz1⟩ := three w (.cells #[.pointer (some ⟨p, 0, none⟩)] 42) (.cells #[.int .u8 kind, .int .u32 id, .slice a n c] 25) (.cells #[.int .i64 0] 27)
  have hcnt : ∀ W, Below w.heap.size w W → Calls Try.prog 21 #[.pointer (some ⟨p, 0, none⟩), .int .i64 per] W fun e w' => e = .returned (.int .i64 (cnt s per)) ∧ w' = W := fun W hW => count_any (h.grow hW) per

  have hsz : ∀ W, Below w.heap.size w W → Calls Try.prog 42 #[.pointer (some ⟨p, 0, none⟩)] W fun e w' => e = .returned (.int .i64 s.size) ∧ w' = W := fun W hW => size_any (h.grow hW)
  have hput : ∀ W, Below w.heap.size w W → Calls Try.prog 10 #[.int .i64 (per * s.size), .agg #[.int .u8 kind, .int .u32 id, .slice a n c]] W fun e w' => e = .returned (.tuple #[.slice none 0 0, .int .i64 (putE (per * s.size) kind n)]) ∧ Below W.heap.size W w' := fun W _ => put_bad _ kind id a n c W hk.1 c3
  have hne : (putE (per * s.size) kind n == 0) = false := by simpa using c3
  have hne2 : (putE (per * s.size) kind n != 0) = true := by simpa using c3
  generalize cnt s per = C at *
  generalize putE (per * s.size) kind n = er at *
  obtain ⟨q, hq⟩ : ∃ q, q = per * (s.size : Int) := ⟨_, rfl⟩
  rw [← hq] at hput
  replace hpw : IntKind.i64.wrap (per * (s.size : Int)) = q := by rw [hpw, hq]
  replace hq : Hid _ := hq
  generalize s.size = z at *
  go_enter Try.func23, Try.ntmps23
  go_wp2_with fail

  generalize ((w.alloc (.cells #[.pointer (some ⟨p, 0, none⟩)] 42)).alloc (.cells #[.int .u8 kind, .int .u32 id, .slice a n c] 25)).alloc (.cells #[.int .i64 0] 27) = W1 at *
  replace hd : Bx W1 w.heap.size _ 42 := hd
  replace hx : PageAt W1 (w.heap.size + 1) kind id (.slice a n c) := hx
  replace hr : Bx W1 (w.heap.size + 1 + 1) _ 27 := hr
  obtain ⟨d0, d1⟩ := hd.cell
  obtain ⟨x0, x1, x2⟩ := hx.cells
  obtain ⟨r0, r1⟩ := hr.cell

  go_region_held3 (fun W => W.cell? ⟨w.heap.size + 1, 1, none⟩ = some (.int .u32 id) ∧ W.cell? ⟨w.heap.size, 0, none⟩ = some (.pointer (some ⟨p, 0, none⟩))) (go_keep) (first | (go_at_call 21; refine (hcnt _ (by first | exact hB | exact hB.drew)).mono ?_; rintro e wA ⟨rfl, hwA⟩; subst wA))

  go_wp2_with fail

  go_region_held3 (fun W => W.cell? ⟨w.heap.size, 0, none⟩ = some (.pointer (some ⟨p, 0, none⟩)) ∧ W.cell? ⟨w.heap.size + 1, 0, none⟩ = some (.int .u8 kind) ∧ W.cell? ⟨w.heap.size + 1, 1, none⟩ = some (.int .u32 id) ∧ W.cell? ⟨w.heap.size + 1, 2, none⟩ = some (.slice a n c)) (go_keep) (first | (go_at_call 42; refine (hsz _ (by first | exact hB | exact hB.drew | exact hB.drew.drew)).mono ?_; rintro e wA ⟨rfl, hwA⟩; subst wA) | (go_at_call 10; refine (hput _ (by first | exact hB | exact hB.drew | exact hB.drew.drew)).mono ?_; rintro e w2 ⟨rfl, hb2⟩; have hB2 : Below W1.heap.size W1 w2 := Below.trans (by first | exact Below.refl _ _ | exact below_d1 _ | exact below_d2 _) hb2; have y0 := cellOf hB2 d0; have y1 := cellOf hB2 x0; have y2 := cellOf hB2 x1; have y3 := cellOf hB2 x2; have y4 := cellOf hB2 r0; have y5 : w2.frozen? ⟨w.heap.size + 1 + 1, 0, none⟩ = false := (hr.keep (hB2.block _ hr.lt)).cell.2))

  go_wp2_with fail
  try simp only [Exit.inBlock, Exit.then]
  refine bodyPost_ret (v := .int .i64 er) ?_ rfl ?_
  · have hc := ((hr.keep (hB2.block _ hr.lt)).set (.int .i64 er)).cell.1
    simp [results, go_sem, hc]
  exact ⟨rfl, (hB.trans (hB2.mono hB.size)).setCell (p := ⟨w.heap.size + 1 + 1, 0, none⟩) (by show _ ≤ w.heap.size + 1 + 1; omega) _⟩
end
end Go.Proofs.Ytcgjolonapndgaa
