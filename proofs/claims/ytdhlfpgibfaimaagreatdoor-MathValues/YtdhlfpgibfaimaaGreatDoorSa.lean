/- Points, and the small functions of series: isHow, do, count. -/
import Derived.Test.YtdhlfpgibfaimaaGreatDoorSm
import Derived.Test.YtdhlfpgibfaimaaGreatDoorNmQb
import Derived.BigQuiet
import Derived.Test.YtdhlfpgibfaimaaGreatDoorVpVw
namespace Go.Proofs.YtdhlfpgibfaimaaGreatDoor
set_option linter.unusedVariables false
open Go.RowKit
/-- A point. -/
structure Pn where
  at' : Int
  v : Vl
def pn0 : Pn := ⟨0, zer⟩
def encP : Enc Pn where
  arr a := [.int .i64 a.at', .int .i64 a.v.kind, .int .i64 a.v.n]
  d := pn0
  k := 3
  len _ := rfl
  one _ u hu := by simp at hu; rcases hu with rfl | rfl | rfl <;> rfl
  pos := by decide
abbrev Pns := Sls encP
/-- The ways to reduce. -/
def howB (s : ByteArray) : Bool := s.toList == [108, 97, 115, 116] || s.toList == [109, 105, 110] || s.toList == [109, 97, 120] || s.toList == [115, 117, 109] || s.toList == [109, 101, 97, 110] || s.toList == [99, 111, 117, 110, 116]
set_option maxRecDepth 100000 in
set_option maxHeartbeats 2000000 in
/-- series.do. -/
theorem sdo_any (op : ByteArray) (v : Value) (l : List Vl) (w : World) (hv : Vls w v l) (hl : l.length ≤ 1000000000) :
    Calls Tryz.prog 118 #[.string op, v] w fun e w' => e = .returned (vlV (doV op l)) ∧ Below w.heap.size w w' := by
  have hO : Below w.heap.size w (w.alloc (vlO zer)) := (Below.refl _ _).alloc (Nat.le_refl _) _
  have hd := do_any op v l (w.alloc (vlO zer)) (hv.grow hO) hl
  generalize doV op l = R at *
  generalize doE op l = E at *
  have h4 : VlAt (w.alloc (vlO zer)) w.heap.size zer := vlNew w zer
  unfold vlO zer vlV at *
  go_enter Tryz.func118, Tryz.ntmps118
  go_wp2_with (first
    | (go_at_call 117; refine hd.mono ?_; rintro e w1 ⟨rfl, hb1⟩; have hB1 := hO.trans (hb1.mono hO.size); have k4 := h4.grow hb1; have hz : w.heap.size < w1.heap.size := k4.lt; obtain ⟨c0, c1⟩ := k4.cells; obtain ⟨f0, f1⟩ := k4.frozen))
  refine ret_cell (v := R) Tryz.results118 rfl ((vlSet k4).alloc _) ⟨rfl, ?_⟩
  exact (belTwo _ _ hB1 (Nat.le_refl _)).alloc (belTwo _ _ hB1 (Nat.le_refl _)).size _
/-- Neither null nor NaN is known. -/
def unkB (p : Pn) : Bool := decide (p.v = nul) || decide (p.v = nan)
end Go.Proofs.YtdhlfpgibfaimaaGreatDoor

