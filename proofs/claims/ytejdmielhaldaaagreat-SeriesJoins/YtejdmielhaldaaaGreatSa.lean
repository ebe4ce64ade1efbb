/- Points, and the small functions of series: isHow, do, count. -/
import Derived.Test.YtejdmielhaldaaaGreatSm
import Derived.Test.YtejdmielhaldaaaGreatNmQb
import Derived.BigQuiet
import Derived.Test.YtejdmielhaldaaaGreatVpVw
namespace Go.Proofs.YtejdmielhaldaaaGreat
set_option linter.unusedVariables false
open Go.RowKit
/-- A point. -/
structure Pn where
  at' : Int
  v : Vl
def pn0 : Pn := ⟨0, zer⟩
def encP : Enc Pn where
  arr a := [.int .i64 a.at', .int .i64 a.v.kind, .int .i64 a.v.n]
  d := pn0
  k := 3
  len _ := rfl
  one _ u hu := by simp at hu; rcases hu with rfl | rfl | rfl <;> rfl
  pos := by decide
def TP : RowTy encP where
  st := 22
  et := 51
  z := .agg #[.int .i64 0, .int .i64 0, .int .i64 0]
  bytes := 24
  hu := Tryz.underlying22
  hi := by kernel_rfl
  hz := rfl
  hb := by decide
abbrev Pns := Sls encP
abbrev OwnP := OwnS TP
theorem pn_at {w : World} {a : Option Addr} {n c : Nat} {l : List Pn} (h : Pns w (.slice a n c) l) (t : Nat) (ht : t < l.length) : ∃ b o, a = some ⟨b, o, none⟩ ∧ w.cell? ⟨b, o + t * 3, none⟩ = some (.int .i64 (l.getD t pn0).at') ∧ w.cell? ⟨b, o + t * 3 + 1, none⟩ = some (.int .i64 (l.getD t pn0).v.kind) ∧ w.cell? ⟨b, o + t * 3 + 2, none⟩ = some (.int .i64 (l.getD t pn0).v.n) := by
  obtain ⟨b, o, e, h⟩ := h.at t ht
  exact ⟨b, o, e, h 0 _ rfl, h 1 _ rfl, h 2 _ rfl⟩
/-- The ways to reduce. -/
def howB (s : ByteArray) : Bool := s.toList == [108, 97, 115, 116] || s.toList == [109, 105, 110] || s.toList == [109, 97, 120] || s.toList == [115, 117, 109] || s.toList == [109, 101, 97, 110] || s.toList == [99, 111, 117, 110, 116]
set_option maxRecDepth 100000 in
set_option maxHeartbeats 2000000 in
/-- series.do. -/
theorem sdo_any (op : ByteArray) (v : Value) (l : List Vl) (w : World) (hv : Vls w v l) (hl : l.length ≤ 1000000000) :
    Calls Tryz.prog 45 #[.string op, v] w fun e w' => e = .returned (vlV (doV op l)) ∧ Below w.heap.size w w' := by
  have hO : Below w.heap.size w (w.alloc (vlO zer)) := (Below.refl _ _).alloc (Nat.le_refl _) _
  have hd := do_any op v l (w.alloc (vlO zer)) (hv.grow hO) hl
  generalize doV op l = R at *
  generalize doE op l = E at *
  have h4 : VlAt (w.alloc (vlO zer)) w.heap.size zer := vlNew w zer
  unfold vlO zer vlV at *
  go_enter Tryz.func45, Tryz.ntmps45
  go_wp2_with (first
    | (go_at_call 43; refine hd.mono ?_; rintro e w1 ⟨rfl, hb1⟩; have hB1 := hO.trans (hb1.mono hO.size); have k4 := h4.grow hb1; have hz : w.heap.size < w1.heap.size := k4.lt; obtain ⟨c0, c1⟩ := k4.cells; obtain ⟨f0, f1⟩ := k4.frozen))
  refine ret_cell (v := R) Tryz.results45 rfl ((vlSet k4).alloc _) ⟨rfl, ?_⟩
  exact (belTwo _ _ hB1 (Nat.le_refl _)).alloc (belTwo _ _ hB1 (Nat.le_refl _)).size _
set_option maxRecDepth 100000 in
set_option maxHeartbeats 2000000 in
/-- series.isHow. -/
theorem ishow_any (s : ByteArray) (w : World) : Calls Tryz.prog 30 #[.string s] w fun e w' => e = .returned (.bool (howB s)) ∧ w' = w := by
  unfold howB
  go_enter Tryz.func30, Tryz.ntmps30
  cases h1 : s.toList == [108, 97, 115, 116] <;> cases h2 : s.toList == [109, 105, 110] <;> cases h3 : s.toList == [109, 97, 120] <;> cases h4 : s.toList == [115, 117, 109] <;> cases h5 : s.toList == [109, 101, 97, 110] <;> cases h6 : s.toList == [99, 111, 117, 110, 116]
  all_goals
    go_wp2
    go_ret
    exact ⟨rfl, rfl⟩
set_option maxRecDepth 100000 in
set_option maxHeartbeats 2000000 in
/-- series.count. -/
theorem scount_any (v : Value) (l : List Pn) (w : World) (hv : Pns w v l) (hl : l.length ≤ 1000000000) : Calls Tryz.prog 59 #[v] w fun e w' => e = .returned (vlV (num (1000 * l.length))) ∧ Below w.heap.size w w' := by
  obtain ⟨a, c, rfl⟩ := hv.shape
  clear hv
  have hO : Below w.heap.size w (w.alloc (vlO zer)) := (Below.refl _ _).alloc (Nat.le_refl _) _
  have hd := num_any ((l.length : Int) * 1000) (w.alloc (vlO zer))
  have h4 : VlAt (w.alloc (vlO zer)) w.heap.size zer := vlNew w zer
  rw [show (1000 : Int) * l.length = (l.length : Int) * 1000 by omega]
  generalize num ((l.length : Int) * 1000) = R at *
  unfold vlO zer vlV at *
  simp only at hd hO h4
  have hli : (l.length : Int) ≤ 1000000000 := by omega
  go_enter Tryz.func59, Tryz.ntmps59
  go_wp2_with (first
    | (go_at_call 86; refine hd.mono ?_; rintro e w1 ⟨rfl, hb1⟩; have hB1 := hO.trans (hb1.mono hO.size); have k4 := h4.grow hb1; obtain ⟨c0, c1⟩ := k4.cells; obtain ⟨f0, f1⟩ := k4.frozen))
  exact ret_cell (v := R) Tryz.results59 rfl (vlSet k4) ⟨rfl, belTwo _ _ hB1 (Nat.le_refl _)⟩
/-- Neither null nor NaN is known. -/
def unkB (p : Pn) : Bool := decide (p.v = nul) || decide (p.v = nan)
set_option maxRecDepth 100000 in
set_option maxHeartbeats 4000000 in
/-- series.isUnknown. -/
theorem unk_any (p : Pn) (w : World) (hp : IsV p.v) : Calls Tryz.prog 58 #[.agg #[.int .i64 p.at', .int .i64 p.v.kind, .int .i64 p.v.n]] w fun e w' => e = .returned (.bool (unkB p)) ∧ Below w.heap.size w w' := by
  obtain ⟨t, v⟩ := p
  obtain ⟨W1, hW⟩ : ∃ W1, W1 = w.alloc (.cells #[.int .i64 t, .int .i64 v.kind, .int .i64 v.n] 51) := ⟨_, rfl⟩
  have hO : Below w.heap.size w W1 := hW ▸ bW0 w _
  have c1 : ∀ p : Bel W1, p.W.cell? ⟨w.heap.size, 1, none⟩ = some (.int .i64 v.kind) := fun p => p.cell (by rw [hW]; simp [go_sem])
  have c2 : ∀ p : Bel W1, p.W.cell? ⟨w.heap.size, 2, none⟩ = some (.int .i64 v.n) := fun p => p.cell (by rw [hW]; simp [go_sem])
  have h44 : ∀ W, Calls Tryz.prog 44 #[] W fun e w' => e = .returned (.agg #[.int .i64 2, .int .i64 0]) ∧ Below W.heap.size W w' := fun W => (null_any W).mono fun _ _ ⟨a, b⟩ => ⟨a, b ▸ bW0 W _⟩
  have h62 : ∀ W, Calls Tryz.prog 62 #[] W fun e w' => e = .returned (.agg #[.int .i64 3, .int .i64 0]) ∧ Below W.heap.size W w' := fun W => (nan_any W).mono fun _ _ ⟨a, b⟩ => ⟨a, b ▸ bW0 W _⟩
  rcases IsV.cases hp with ⟨n, e, _, _⟩ | e | e | e | e
  all_goals
    simp only at e
    subst e
    try unfold nul at *
    try unfold nan at *
    try unfold pls at *
    try unfold mns at *
    go_enter Tryz.func58, Tryz.ntmps58
    go_wp2
    rw [← hW]
    refine wp_region_bel (by kernel_rfl) (by kernel_rfl) ?_
    repeat (go_big_quiet_step (first | with_reducible exact Calls.bel (h44 _) | with_reducible exact Calls.bel (h62 _)))
    refine wpQuiet_nil ?_
    rintro W ⟨p, rfl⟩
    go_wp2
    go_ret
    exact ⟨by unfold unkB nul nan; simp, hO.trans (p.h.mono hO.size)⟩
end Go.Proofs.YtejdmielhaldaaaGreat
