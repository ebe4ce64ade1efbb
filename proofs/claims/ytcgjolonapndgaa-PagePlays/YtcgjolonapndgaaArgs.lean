/- A page that came in. -/
import Derived.Test.YtcgjolonapndgaaLive
import Derived.Deep.Fields
import Derived.ChangeArms
import Derived.ProofKit
import Derived.ChangeOld
namespace Go.Proofs.Ytcgjolonapndgaa
open Go.RowKit Go.Maps Go.ChangeMaps Go.MapKept Go.ChangeShapes Go.WideShapes Go.ChangeAt Go.Deep
theorem IsRow.isBytes {w : World} {a : Option Addr} {len cap : Nat} {zs : List Int} (h : IsRow .u8 w a len cap zs) : IsBytes (zs.take len) := by
  intro c hc
  have := bounds_u8 (h.wf c hc)
  omega
theorem PageAt.alloc {w : World} {pb : Nat} {kind : Int} {id : Nat} {lv : Value} (h : PageAt w pb kind id lv) (o : Obj) : PageAt (w.alloc o) pb kind id lv := h.keep ((heap_alloc w o).2 _ h.lt)
section
variable {H : Type} {enc : TypeId × Value → H} {W : World} {n : Nat}
theorem bytes_of_trod {v : Value} {y : DataW H × List MemPlace} (h : DataW.trod enc Try.prog W 0 (fun _ => true) true n 23 [v] = some y) : ∃ a len cap zs, v = .slice a len cap ∧ IsRow .u8 W a len cap zs := by
  rcases open_ints Try.underlying23 Try.underlying5 (by kernel_rfl) h with ⟨hcs, _⟩ | ⟨x, l, c, zs, hcs, _, hl, hm, hz, _, hcell, hwz⟩
  · simp at hcs
    subst hcs
    exact ⟨none, 0, 0, [], rfl, .inl ⟨rfl, rfl, rfl, rfl⟩⟩
  · simp at hcs
    subst hcs
    exact ⟨_, _, _, zs, rfl, .inr ⟨_, rfl, hl, hm, by simpa using hz, hcell, hwz⟩⟩
/-- A page's cells, read. -/
theorem page_cells {cs : List Value} {x : DataW H × List MemPlace} (hl : cs.length = 3) (h : DataW.trod enc Try.prog W 0 (fun _ => true) true n 25 cs = some x) :
    ∃ (k : Int) (i : Nat) (a : Option Addr) (len cap : Nat) (zs : List Int), cs = [.int .u8 k, .int .u32 i, .slice a len cap] ∧ (0 ≤ k ∧ k < 256) ∧ i < 2 ^ 32 ∧ IsRow .u8 W a len cap zs := by
  match cs, hl with
  | [v0, v1, v2], _ =>
    obtain ⟨xs, k, _, _, _, hxl, hf⟩ := DataW.trod_struct Try.underlying25 h
    have g0 : DataW.trod enc Try.prog W 0 (fun _ => true) true k 5 (([v0, v1, v2].drop 0).take (Try.prog.cellsOf 5)) = xs[0]? := hf 0 _ rfl
    have g1 : DataW.trod enc Try.prog W 0 (fun _ => true) true k 22 (([v0, v1, v2].drop 1).take (Try.prog.cellsOf 22)) = xs[1]? := hf 1 _ rfl
    have g2 : DataW.trod enc Try.prog W 0 (fun _ => true) true k 23 (([v0, v1, v2].drop 2).take (Try.prog.cellsOf 23)) = xs[2]? := hf 2 _ rfl
    have k5 : Try.prog.cellsOf 5 = 1 := by kernel_rfl
    have k22 : Try.prog.cellsOf 22 = 1 := by kernel_rfl
    have k23 : Try.prog.cellsOf 23 = 1 := by kernel_rfl
    simp only [k5, k22, k23, List.drop_zero, List.drop_succ_cons, List.take_succ_cons, List.take_zero] at g0 g1 g2
    match xs, hxl with
    | [y0, y1, y2], _ =>
      simp at g0 g1 g2
      obtain ⟨a0, h01, _, h03⟩ := DataW.trod_int Try.underlying5 g0
      obtain ⟨a1, h11, _, h13⟩ := DataW.trod_int Try.underlying22 g1
      obtain ⟨p2, l2, q2, z2, rfl, r2⟩ := bytes_of_trod g2
      simp at h01 h11
      subst h01 h11
      have b0 := bounds_u8 h03
      have b1 : 0 ≤ a1 ∧ a1 < 4294967296 := by
        simp only [Lit.wf, Bool.and_eq_true, IntKind.min, IntKind.max, IntKind.signed, IntKind.bits] at h13
        simp at h13
        omega
      obtain ⟨i, rfl⟩ : ∃ i : Nat, a1 = i := ⟨a1.toNat, by omega⟩
      exact ⟨a0, i, p2, l2, q2, z2, rfl, by omega, by omega, r2⟩
theorem page_arg {v : Value} {b0 : Nat} {d : DataW H} {ps : List MemPlace} (hval : Value.okWide Try.prog W .any b0 25 v) (h : DataW.Trod enc Try.prog W 0 (fun _ => true) true 25 v d ps) :
    ∃ (k : Int) (i : Nat) (a : Option Addr) (len cap : Nat) (zs : List Int), v = .agg #[.int .u8 k, .int .u32 i, .slice a len cap] ∧ (0 ≤ k ∧ k < 256) ∧ i < 2 ^ 32 ∧ IsRow .u8 W a len cap zs := by
  obtain ⟨cs, rfl, hs⟩ := okWide_struct Try.underlying25 hval
  obtain ⟨fuel, hf⟩ := h
  have k25 : Try.prog.cellsOf 25 = 3 := by kernel_rfl
  rw [k25] at hs
  obtain ⟨k, i, a, len, cap, zs, hcs, h1, h2, h3⟩ := page_cells (by simpa [Value.cells] using hs) hf
  refine ⟨k, i, a, len, cap, zs, ?_, h1, h2, h3⟩
  simp only [Value.cells] at hcs
  congr 1
  apply Array.toList_inj.1
  rw [hcs]
end
end Go.Proofs.Ytcgjolonapndgaa
