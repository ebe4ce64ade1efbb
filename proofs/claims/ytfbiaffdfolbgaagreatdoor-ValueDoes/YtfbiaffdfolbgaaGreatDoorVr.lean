/- Variables of the library that the calls lean on; the contract of strconv.FormatUint. -/
import Derived.Test.YtfbiaffdfolbgaaGreatDoorVq
import Derived.Lib.AppendIntMem
import Derived.Lib.ItoaMem
import Derived.WalkSmall
namespace Go.Proofs.YtfbiaffdfolbgaaGreatDoor
set_option linter.unusedVariables false
open Go.RowKit Go.Sort Go.Lib
/-- What the library's variables hold. -/
def G (w : World) : Prop := (∃ m, w.cell? ⟨0, 0, none⟩ = some (.int .i64 m)) ∧ Lib.TabIs Tryz.prog w "internal/strconv.uint64pow10" .u64 Lib.pow10Tab ∧
  (∃ tp p, w.var? Tryz.prog "strconv.ErrSyntax" = some #[.iface tp p]) ∧ ∃ tp p, w.var? Tryz.prog "strconv.ErrRange" = some #[.iface tp p]
theorem var_grow {P : Program} {w w' : World} {n : String} {cs : Array Value} (h : w.var? P n = some cs) (hb : Below w.heap.size w w') : w'.var? P n = some cs := by
  unfold World.var? at h ⊢
  cases hg : P.globalNamed n with
  | none => simp [hg] at h
  | some g =>
    simp only [hg, Option.bind_some] at h ⊢
    have hlt : g < w.heap.size := by
      by_cases hh : g < w.heap.size
      · exact hh
      · rw [Array.getElem?_eq_none (by omega)] at h; cases h
    rw [hb.block g hlt]; exact h
theorem G.grow {w w' : World} (h : G w) (hb : Below w.heap.size w w') : G w' := by
  obtain ⟨⟨m, h1⟩, h2, ⟨a, b, h3⟩, ⟨c, d, h4⟩⟩ := h
  exact ⟨⟨m, keepC h1 hb⟩, var_grow h2 hb, ⟨a, b, var_grow h3 hb⟩, ⟨c, d, var_grow h4 hb⟩⟩
/-- The text of a number's digits. -/
def digS (u : Nat) : ByteArray := ⟨(Lib.decDigits u).toArray⟩
set_option maxRecDepth 100000 in
set_option maxHeartbeats 2000000 in
theorem fmtIn_any (u : Nat) (hu : u < 18446744073709551616) (w : World) (hG : G w) : Calls Tryz.prog 92 #[.int .u64 u, .int .i64 10] w fun e w' => e = .returned (.string (digS u)) ∧ Below w.heap.size w w' := by
  have htab := hG.2.1
  by_cases h1 : u < 100
  · have hs := Tryz.internal_strconv_small u h1 w
    have e0 : (⟨(Lib.decDigits u).toArray⟩ : ByteArray) = digS u := rfl
    rw [e0] at hs
    generalize digS u = D at *
    clear e0 htab hG
    have h1i : (u : Int) < 100 := by omega
    go_enter Tryz.func92, Tryz.ntmps92
    go_wp2_with (go_at_call 109; refine hs.mono ?_; rintro e w1 ⟨rfl, hw⟩; subst w1)
    go_ret
    exact ⟨rfl, Below.refl _ _⟩
  · have h1i : ¬ (u : Int) < 100 := by omega
    have hu1 : 1 ≤ u := by omega
    have hnd20 : Lib.nDigits u ≤ 20 := by have := Lib.numDigits_eq u hu1 hu; split at this <;> omega
    have hn := Tryz.internal_strconv_numDigits u hu1 hu (w.alloc (.cells Lib.zeros24 106)) (Lib.tabIs_alloc htab _)
    have hH0 := Lib.holds_zero0 w 106 (Lib.nDigits u) (by omega)
    have hf := Tryz.internal_strconv_formatBase10 w.heap.size 0 24 u (Array.replicate (Lib.nDigits u) 0) (w.alloc (.cells Lib.zeros24 106)) hH0 (by rw [Array.size_replicate]; exact Lib.lt_pow_nDigits u) hu (by rw [Array.size_replicate]; omega)
    rw [Array.size_replicate] at hf
    have hdl := Lib.decDigits_length u
    obtain ⟨N, hN⟩ : ∃ N, Hid (N = Lib.nDigits u) := ⟨_, rfl⟩
    have hNl : Hid ((Lib.decDigits u).length = N) := by rw [hN.out]; exact hdl
    have hFn : Hid (∀ (v' : Nat) (dk : Array UInt8), FmtInv N u 0 v' dk → FmtInv (Lib.nDigits u) u 0 v' dk) := fun v' dk h => by rw [← hN.out]; exact h
    rw [← hN.out] at hn hf hnd20 hH0
    have hal : Tryz.prog.arrayLen 106 = 24 := by simp [Program.arrayLen, Tryz.underlying106]
    have hsl : ∀ W, (Instr.sliceAt 106 (.pointer (some ⟨w.heap.size, 0, none⟩)) none (some (.int .i64 (N : Int))) none).run Tryz.prog W = .ok (.slice (some ⟨w.heap.size, 0, none⟩) N 24) W := fun W => by
      rw [run_sliceAt_array_h W 106 ⟨w.heap.size, 0, none⟩ (by simp [Program.arrayLen, Program.elem, Tryz.underlying106]) .i64 (N : Int) (by omega) (by rw [hal]; omega)]
      go_simp
    have hcv : ∀ (dk : Array UInt8) (v' k : Nat), FmtInv N u 0 v' dk →
        (convert 109 9 (.slice (some ⟨w.heap.size, 0, none⟩) N 24)).run Tryz.prog ((putRow (fun (b : UInt8) => Value.int .u8 (b.toNat : Int)) (w.alloc (.cells Lib.zeros24 106)) w.heap.size 0 dk).drewN k) = .ok (.string (digS u)) ((putRow (fun (b : UInt8) => Value.int .u8 (b.toNat : Int)) (w.alloc (.cells Lib.zeros24 106)) w.heap.size 0 dk).drewN k) := fun dk v' k hF => by
      have h := run_convert_bytes_back (P := Tryz.prog) ((putRow (fun (b : UInt8) => Value.int .u8 (b.toNat : Int)) (w.alloc (.cells Lib.zeros24 106)) w.heap.size 0 dk).drewN k) 109 9 5 ⟨w.heap.size, 0, none⟩ 24 (Lib.decDigits u) Tryz.underlying109 Tryz.underlying5 Tryz.underlying9 (fun j hj => by
        rw [Lib.row_is_numeral (hFn.out _ _ hF) j hj, Lib.add_plain, World.cell?_drewN]
        exact cell?_putRow (fun (b : UInt8) => Value.int .u8 (b.toNat : Int)) _ w.heap.size 0 _ dk hH0 (by rw [hF.size, Array.size_replicate]) j (by rw [hF.size, ← hNl.out]; exact hj))
      rw [hNl.out] at h
      exact h
    have hbel : ∀ (dk : Array UInt8) (k : Nat), Below w.heap.size w ((putRow (fun (b : UInt8) => Value.int .u8 (b.toNat : Int)) (w.alloc (.cells Lib.zeros24 106)) w.heap.size 0 dk).drewN k) := fun dk k => by
      rw [alloc_eq_grow]
      obtain ⟨os', _, e⟩ := putRow_grow_new (fun (b : UInt8) => Value.int .u8 (b.toNat : Int)) w #[.cells Lib.zeros24 106] w.heap.size 0 dk (Nat.le_refl _)
      rw [e]
      exact below_grow _ w (Nat.le_refl _) k os'
    generalize digS u = D at *
    replace hH0 := Lib.hid hH0
    clear hal hG htab hdl
    go_enter Tryz.func92, Tryz.ntmps92
    go_wp2_with (first | (go_at_call 110; refine hn.mono ?_; rintro e w1 ⟨rfl, hw⟩; subst w1))
    go_at_call 111
    refine hf.mono ?_
    rintro e w1 ⟨rfl, k, v', dk, rfl, hF⟩
    have hc := hcv dk v' k hF
    have hb := hbel dk k
    go_wp2
    go_ret
    exact ⟨rfl, hb⟩
set_option maxRecDepth 100000 in
theorem fmt_any (u : Nat) (hu : u < 18446744073709551616) (w : World) (hG : G w) : Calls Tryz.prog 73 #[.int .u64 u, .int .i64 10] w fun e w' => e = .returned (.string (digS u)) ∧ Below w.heap.size w w' := by
  have h := fmtIn_any u hu w hG
  generalize digS u = D at *
  clear hG
  go_enter Tryz.func73, Tryz.ntmps73
  go_wp2_with (go_at_call 92; refine h.mono ?_; rintro e w1 ⟨rfl, hb⟩)
  go_ret
  exact ⟨rfl, hb⟩
end Go.Proofs.YtfbiaffdfolbgaaGreatDoor
