/- The document's one. -/
import Derived.Test.YtejdmielhaldaaaGreatWo
namespace Go.Proofs.YtejdmielhaldaaaGreat
set_option linter.unusedVariables false
open Go.RowKit
attribute [local go_sem ↓] Go.wp_at_zero Go.wp_at_succ
theorem end_one {tmps : Array Value} {w W0 W : World} {x : Nat} {v u : Vl} {r : Value} (ht : tmps[4]?.getD undef = .pointer (some ⟨x, 0, none⟩)) (hs : tmps[5]?.getD undef = r) (hx : w.heap.size ≤ x)
    (h0 : Below w.heap.size w W0) (hB : Below W0.heap.size W0 W) (hv : VlAt W0 x u) :
    bodyPost Tryz.prog Tryz.f50 (fun e w' => e = .returned (.tuple #[vlV v, r]) ∧ Below w.heap.size w w') .ret { tmps := tmps, defers := [] } ((W.setCell ⟨x, 0, none⟩ (.int .i64 v.kind)).setCell ⟨x, 1, none⟩ (.int .i64 v.n)) :=
  ret_cell2 Tryz.results50 ht (vlSet (hv.grow hB)) hs ⟨rfl, belTwo _ _ (h0.trans (hB.mono h0.size)) hx⟩
abbrev wld2 (w : World) (a : Vl) : World := (w.alloc (.cells #[.int .i64 a.kind, .int .i64 a.n] 25)).alloc (.cells #[.int .i64 0, .int .i64 0] 25)
set_option maxRecDepth 100000 in
set_option maxHeartbeats 4000000 in
theorem ro_isnull_t (op : ByteArray) (a : Vl) (e_isnull : (op.toList == [105, 115, 95, 110, 117, 108, 108]) = true) (k1 : (a.kind == 2) = true) (w : World) : Calls Tryz.prog 50 #[.string op, vlV a] w fun e w' => e = .returned (.tuple #[vlV (tru true), .bool true]) ∧ Below w.heap.size w w' := by
  obtain ⟨R, hR⟩ : ∃ R, Hid (R = (tru true)) := ⟨_, rfl⟩
  rw [← hR.out]
  have hb0 : Hid (Below w.heap.size w (wld2 w a)) := bW1 w a
  obtain ⟨ha, hr⟩ := pW1 w a
  replace ha : VlAt (wld2 w a) w.heap.size a := ha
  replace hr : VlAt (wld2 w a) (w.heap.size + 1) zer := hr
  have hB := Below.refl (wld2 w a).heap.size (wld2 w a)
  obtain ⟨a0, a1⟩ := ha.cells
  obtain ⟨r0, r1⟩ := hr.cells
  obtain ⟨rf0, rf1⟩ := hr.frozen
  have hU : ∀ W : World, Calls Tryz.prog 79 #[.bool true] W fun e w' => e = .returned (.agg #[.int .i64 R.kind, .int .i64 R.n]) ∧ Below W.heap.size W w' := fun W => by rw [hR.out]; exact rtruth_any true W
  unfold vlV
  go_enter Tryz.func50, Tryz.ntmps50
  go_wp2_with (first
    | (go_at_call 79; (with_reducible refine (hU _).mono ?_); rintro e w5 ⟨rfl, hq⟩; replace hB := hB.trans (hq.mono hB.size); obtain ⟨a0, a1⟩ := (ha.grow hB).cells; obtain ⟨r0, r1⟩ := (hr.grow hB).cells; obtain ⟨rf0, rf1⟩ := (hr.grow hB).frozen))
  exact end_one (v := R) rfl rfl (by omega) hb0.out hB hr
set_option maxRecDepth 100000 in
set_option maxHeartbeats 4000000 in
theorem ro_isnull_f (op : ByteArray) (a : Vl) (e_isnull : (op.toList == [105, 115, 95, 110, 117, 108, 108]) = true) (k1 : (a.kind == 2) = false) (w : World) : Calls Tryz.prog 50 #[.string op, vlV a] w fun e w' => e = .returned (.tuple #[vlV (tru false), .bool true]) ∧ Below w.heap.size w w' := by
  obtain ⟨R, hR⟩ : ∃ R, Hid (R = (tru false)) := ⟨_, rfl⟩
  rw [← hR.out]
  have hb0 : Hid (Below w.heap.size w (wld2 w a)) := bW1 w a
  obtain ⟨ha, hr⟩ := pW1 w a
  replace ha : VlAt (wld2 w a) w.heap.size a := ha
  replace hr : VlAt (wld2 w a) (w.heap.size + 1) zer := hr
  have hB := Below.refl (wld2 w a).heap.size (wld2 w a)
  obtain ⟨a0, a1⟩ := ha.cells
  obtain ⟨r0, r1⟩ := hr.cells
  obtain ⟨rf0, rf1⟩ := hr.frozen
  have hU : ∀ W : World, Calls Tryz.prog 79 #[.bool false] W fun e w' => e = .returned (.agg #[.int .i64 R.kind, .int .i64 R.n]) ∧ Below W.heap.size W w' := fun W => by rw [hR.out]; exact rtruth_any false W
  unfold vlV
  go_enter Tryz.func50, Tryz.ntmps50
  go_wp2_with (first
    | (go_at_call 79; (with_reducible refine (hU _).mono ?_); rintro e w5 ⟨rfl, hq⟩; replace hB := hB.trans (hq.mono hB.size); obtain ⟨a0, a1⟩ := (ha.grow hB).cells; obtain ⟨r0, r1⟩ := (hr.grow hB).cells; obtain ⟨rf0, rf1⟩ := (hr.grow hB).frozen))
  exact end_one (v := R) rfl rfl (by omega) hb0.out hB hr
set_option maxRecDepth 100000 in
set_option maxHeartbeats 4000000 in
theorem ro_isnan_t (op : ByteArray) (a : Vl) (e_isnull : (op.toList == [105, 115, 95, 110, 117, 108, 108]) = false) (e_isnan : (op.toList == [105, 115, 95, 110, 97, 110]) = true) (k1 : (a.kind == 3) = true) (w : World) : Calls Tryz.prog 50 #[.string op, vlV a] w fun e w' => e = .returned (.tuple #[vlV (tru true), .bool true]) ∧ Below w.heap.size w w' := by
  obtain ⟨R, hR⟩ : ∃ R, Hid (R = (tru true)) := ⟨_, rfl⟩
  rw [← hR.out]
  have hb0 : Hid (Below w.heap.size w (wld2 w a)) := bW1 w a
  obtain ⟨ha, hr⟩ := pW1 w a
  replace ha : VlAt (wld2 w a) w.heap.size a := ha
  replace hr : VlAt (wld2 w a) (w.heap.size + 1) zer := hr
  have hB := Below.refl (wld2 w a).heap.size (wld2 w a)
  obtain ⟨a0, a1⟩ := ha.cells
  obtain ⟨r0, r1⟩ := hr.cells
  obtain ⟨rf0, rf1⟩ := hr.frozen
  have hU : ∀ W : World, Calls Tryz.prog 79 #[.bool true] W fun e w' => e = .returned (.agg #[.int .i64 R.kind, .int .i64 R.n]) ∧ Below W.heap.size W w' := fun W => by rw [hR.out]; exact rtruth_any true W
  unfold vlV
  go_enter Tryz.func50, Tryz.ntmps50
  go_wp2_with (first
    | (go_at_call 79; (with_reducible refine (hU _).mono ?_); rintro e w5 ⟨rfl, hq⟩; replace hB := hB.trans (hq.mono hB.size); obtain ⟨a0, a1⟩ := (ha.grow hB).cells; obtain ⟨r0, r1⟩ := (hr.grow hB).cells; obtain ⟨rf0, rf1⟩ := (hr.grow hB).frozen))
  exact end_one (v := R) rfl rfl (by omega) hb0.out hB hr
set_option maxRecDepth 100000 in
set_option maxHeartbeats 4000000 in
theorem ro_isnan_f (op : ByteArray) (a : Vl) (e_isnull : (op.toList == [105, 115, 95, 110, 117, 108, 108]) = false) (e_isnan : (op.toList == [105, 115, 95, 110, 97, 110]) = true) (k1 : (a.kind == 3) = false) (w : World) : Calls Tryz.prog 50 #[.string op, vlV a] w fun e w' => e = .returned (.tuple #[vlV (tru false), .bool true]) ∧ Below w.heap.size w w' := by
  obtain ⟨R, hR⟩ : ∃ R, Hid (R = (tru false)) := ⟨_, rfl⟩
  rw [← hR.out]
  have hb0 : Hid (Below w.heap.size w (wld2 w a)) := bW1 w a
  obtain ⟨ha, hr⟩ := pW1 w a
  replace ha : VlAt (wld2 w a) w.heap.size a := ha
  replace hr : VlAt (wld2 w a) (w.heap.size + 1) zer := hr
  have hB := Below.refl (wld2 w a).heap.size (wld2 w a)
  obtain ⟨a0, a1⟩ := ha.cells
  obtain ⟨r0, r1⟩ := hr.cells
  obtain ⟨rf0, rf1⟩ := hr.frozen
  have hU : ∀ W : World, Calls Tryz.prog 79 #[.bool false] W fun e w' => e = .returned (.agg #[.int .i64 R.kind, .int .i64 R.n]) ∧ Below W.heap.size W w' := fun W => by rw [hR.out]; exact rtruth_any false W
  unfold vlV
  go_enter Tryz.func50, Tryz.ntmps50
  go_wp2_with (first
    | (go_at_call 79; (with_reducible refine (hU _).mono ?_); rintro e w5 ⟨rfl, hq⟩; replace hB := hB.trans (hq.mono hB.size); obtain ⟨a0, a1⟩ := (ha.grow hB).cells; obtain ⟨r0, r1⟩ := (hr.grow hB).cells; obtain ⟨rf0, rf1⟩ := (hr.grow hB).frozen))
  exact end_one (v := R) rfl rfl (by omega) hb0.out hB hr
set_option maxRecDepth 100000 in
set_option maxHeartbeats 4000000 in
theorem ro_isinf_1 (op : ByteArray) (a : Vl) (e_isnull : (op.toList == [105, 115, 95, 110, 117, 108, 108]) = false) (e_isnan : (op.toList == [105, 115, 95, 110, 97, 110]) = false) (e_isinf : (op.toList == [105, 115, 95, 105, 110, 102]) = true) (k1 : (a.kind == 4) = true) (w : World) : Calls Tryz.prog 50 #[.string op, vlV a] w fun e w' => e = .returned (.tuple #[vlV (tru true), .bool true]) ∧ Below w.heap.size w w' := by
  obtain ⟨R, hR⟩ : ∃ R, Hid (R = (tru true)) := ⟨_, rfl⟩
  rw [← hR.out]
  have hb0 : Hid (Below w.heap.size w (wld2 w a)) := bW1 w a
  obtain ⟨ha, hr⟩ := pW1 w a
  replace ha : VlAt (wld2 w a) w.heap.size a := ha
  replace hr : VlAt (wld2 w a) (w.heap.size + 1) zer := hr
  have hB := Below.refl (wld2 w a).heap.size (wld2 w a)
  obtain ⟨a0, a1⟩ := ha.cells
  obtain ⟨r0, r1⟩ := hr.cells
  obtain ⟨rf0, rf1⟩ := hr.frozen
  have hU : ∀ W : World, Calls Tryz.prog 79 #[.bool true] W fun e w' => e = .returned (.agg #[.int .i64 R.kind, .int .i64 R.n]) ∧ Below W.heap.size W w' := fun W => by rw [hR.out]; exact rtruth_any true W
  unfold vlV
  go_enter Tryz.func50, Tryz.ntmps50
  go_wp2_with (first
    | (go_at_call 79; (with_reducible refine (hU _).mono ?_); rintro e w5 ⟨rfl, hq⟩; replace hB := hB.trans (hq.mono hB.size); obtain ⟨a0, a1⟩ := (ha.grow hB).cells; obtain ⟨r0, r1⟩ := (hr.grow hB).cells; obtain ⟨rf0, rf1⟩ := (hr.grow hB).frozen))
  exact end_one (v := R) rfl rfl (by omega) hb0.out hB hr
set_option maxRecDepth 100000 in
set_option maxHeartbeats 4000000 in
theorem ro_isinf_t (op : ByteArray) (a : Vl) (e_isnull : (op.toList == [105, 115, 95, 110, 117, 108, 108]) = false) (e_isnan : (op.toList == [105, 115, 95, 110, 97, 110]) = false) (e_isinf : (op.toList == [105, 115, 95, 105, 110, 102]) = true) (k1 : (a.kind == 4) = false) (k2 : (a.kind == 5) = true) (w : World) : Calls Tryz.prog 50 #[.string op, vlV a] w fun e w' => e = .returned (.tuple #[vlV (tru true), .bool true]) ∧ Below w.heap.size w w' := by
  obtain ⟨R, hR⟩ : ∃ R, Hid (R = (tru true)) := ⟨_, rfl⟩
  rw [← hR.out]
  have hb0 : Hid (Below w.heap.size w (wld2 w a)) := bW1 w a
  obtain ⟨ha, hr⟩ := pW1 w a
  replace ha : VlAt (wld2 w a) w.heap.size a := ha
  replace hr : VlAt (wld2 w a) (w.heap.size + 1) zer := hr
  have hB := Below.refl (wld2 w a).heap.size (wld2 w a)
  obtain ⟨a0, a1⟩ := ha.cells
  obtain ⟨r0, r1⟩ := hr.cells
  obtain ⟨rf0, rf1⟩ := hr.frozen
  have hU : ∀ W : World, Calls Tryz.prog 79 #[.bool true] W fun e w' => e = .returned (.agg #[.int .i64 R.kind, .int .i64 R.n]) ∧ Below W.heap.size W w' := fun W => by rw [hR.out]; exact rtruth_any true W
  unfold vlV
  go_enter Tryz.func50, Tryz.ntmps50
  go_wp2_with (first
    | (go_at_call 79; (with_reducible refine (hU _).mono ?_); rintro e w5 ⟨rfl, hq⟩; replace hB := hB.trans (hq.mono hB.size); obtain ⟨a0, a1⟩ := (ha.grow hB).cells; obtain ⟨r0, r1⟩ := (hr.grow hB).cells; obtain ⟨rf0, rf1⟩ := (hr.grow hB).frozen))
  exact end_one (v := R) rfl rfl (by omega) hb0.out hB hr
set_option maxRecDepth 100000 in
set_option maxHeartbeats 4000000 in
theorem ro_isinf_f (op : ByteArray) (a : Vl) (e_isnull : (op.toList == [105, 115, 95, 110, 117, 108, 108]) = false) (e_isnan : (op.toList == [105, 115, 95, 110, 97, 110]) = false) (e_isinf : (op.toList == [105, 115, 95, 105, 110, 102]) = true) (k1 : (a.kind == 4) = false) (k2 : (a.kind == 5) = false) (w : World) : Calls Tryz.prog 50 #[.string op, vlV a] w fun e w' => e = .returned (.tuple #[vlV (tru false), .bool true]) ∧ Below w.heap.size w w' := by
  obtain ⟨R, hR⟩ : ∃ R, Hid (R = (tru false)) := ⟨_, rfl⟩
  rw [← hR.out]
  have hb0 : Hid (Below w.heap.size w (wld2 w a)) := bW1 w a
  obtain ⟨ha, hr⟩ := pW1 w a
  replace ha : VlAt (wld2 w a) w.heap.size a := ha
  replace hr : VlAt (wld2 w a) (w.heap.size + 1) zer := hr
  have hB := Below.refl (wld2 w a).heap.size (wld2 w a)
  obtain ⟨a0, a1⟩ := ha.cells
  obtain ⟨r0, r1⟩ := hr.cells
  obtain ⟨rf0, rf1⟩ := hr.frozen
  have hU : ∀ W : World, Calls Tryz.prog 79 #[.bool false] W fun e w' => e = .returned (.agg #[.int .i64 R.kind, .int .i64 R.n]) ∧ Below W.heap.size W w' := fun W => by rw [hR.out]; exact rtruth_any false W
  unfold vlV
  go_enter Tryz.func50, Tryz.ntmps50
  go_wp2_with (first
    | (go_at_call 79; (with_reducible refine (hU _).mono ?_); rintro e w5 ⟨rfl, hq⟩; replace hB := hB.trans (hq.mono hB.size); obtain ⟨a0, a1⟩ := (ha.grow hB).cells; obtain ⟨r0, r1⟩ := (hr.grow hB).cells; obtain ⟨rf0, rf1⟩ := (hr.grow hB).frozen))
  exact end_one (v := R) rfl rfl (by omega) hb0.out hB hr
set_option maxRecDepth 100000 in
set_option maxHeartbeats 4000000 in
theorem ro_isnum_t (op : ByteArray) (a : Vl) (e_isnull : (op.toList == [105, 115, 95, 110, 117, 108, 108]) = false) (e_isnan : (op.toList == [105, 115, 95, 110, 97, 110]) = false) (e_isinf : (op.toList == [105, 115, 95, 105, 110, 102]) = false) (e_isnum : (op.toList == [105, 115, 95, 110, 117, 109, 98, 101, 114]) = true) (k1 : (a.kind == 1) = true) (w : World) : Calls Tryz.prog 50 #[.string op, vlV a] w fun e w' => e = .returned (.tuple #[vlV (tru true), .bool true]) ∧ Below w.heap.size w w' := by
  obtain ⟨R, hR⟩ : ∃ R, Hid (R = (tru true)) := ⟨_, rfl⟩
  rw [← hR.out]
  have hb0 : Hid (Below w.heap.size w (wld2 w a)) := bW1 w a
  obtain ⟨ha, hr⟩ := pW1 w a
  replace ha : VlAt (wld2 w a) w.heap.size a := ha
  replace hr : VlAt (wld2 w a) (w.heap.size + 1) zer := hr
  have hB := Below.refl (wld2 w a).heap.size (wld2 w a)
  obtain ⟨a0, a1⟩ := ha.cells
  obtain ⟨r0, r1⟩ := hr.cells
  obtain ⟨rf0, rf1⟩ := hr.frozen
  have hU : ∀ W : World, Calls Tryz.prog 79 #[.bool true] W fun e w' => e = .returned (.agg #[.int .i64 R.kind, .int .i64 R.n]) ∧ Below W.heap.size W w' := fun W => by rw [hR.out]; exact rtruth_any true W
  have hK : ∀ W : World, Calls Tryz.prog 65 #[.agg #[.int .i64 a.kind, .int .i64 a.n]] W fun e w' => e = .returned (.bool true) ∧ Below W.heap.size W w' := fun W => by rw [← k1]; exact knum_any a W
  clear k1
  unfold vlV
  go_enter Tryz.func50, Tryz.ntmps50
  go_wp2_with (first
    | (go_at_call 65; (with_reducible refine (hK _).mono ?_); rintro e w5 ⟨rfl, hq⟩; replace hB := hB.trans (hq.mono hB.size); obtain ⟨a0, a1⟩ := (ha.grow hB).cells; obtain ⟨r0, r1⟩ := (hr.grow hB).cells; obtain ⟨rf0, rf1⟩ := (hr.grow hB).frozen)
    | (go_at_call 79; (with_reducible refine (hU _).mono ?_); rintro e w6 ⟨rfl, hq⟩; replace hB := hB.trans (hq.mono hB.size); obtain ⟨a0, a1⟩ := (ha.grow hB).cells; obtain ⟨r0, r1⟩ := (hr.grow hB).cells; obtain ⟨rf0, rf1⟩ := (hr.grow hB).frozen))
  exact end_one (v := R) rfl rfl (by omega) hb0.out hB hr
set_option maxRecDepth 100000 in
set_option maxHeartbeats 4000000 in
theorem ro_isnum_f (op : ByteArray) (a : Vl) (e_isnull : (op.toList == [105, 115, 95, 110, 117, 108, 108]) = false) (e_isnan : (op.toList == [105, 115, 95, 110, 97, 110]) = false) (e_isinf : (op.toList == [105, 115, 95, 105, 110, 102]) = false) (e_isnum : (op.toList == [105, 115, 95, 110, 117, 109, 98, 101, 114]) = true) (k1 : (a.kind == 1) = false) (w : World) : Calls Tryz.prog 50 #[.string op, vlV a] w fun e w' => e = .returned (.tuple #[vlV (tru false), .bool true]) ∧ Below w.heap.size w w' := by
  obtain ⟨R, hR⟩ : ∃ R, Hid (R = (tru false)) := ⟨_, rfl⟩
  rw [← hR.out]
  have hb0 : Hid (Below w.heap.size w (wld2 w a)) := bW1 w a
  obtain ⟨ha, hr⟩ := pW1 w a
  replace ha : VlAt (wld2 w a) w.heap.size a := ha
  replace hr : VlAt (wld2 w a) (w.heap.size + 1) zer := hr
  have hB := Below.refl (wld2 w a).heap.size (wld2 w a)
  obtain ⟨a0, a1⟩ := ha.cells
  obtain ⟨r0, r1⟩ := hr.cells
  obtain ⟨rf0, rf1⟩ := hr.frozen
  have hU : ∀ W : World, Calls Tryz.prog 79 #[.bool false] W fun e w' => e = .returned (.agg #[.int .i64 R.kind, .int .i64 R.n]) ∧ Below W.heap.size W w' := fun W => by rw [hR.out]; exact rtruth_any false W
  have hK : ∀ W : World, Calls Tryz.prog 65 #[.agg #[.int .i64 a.kind, .int .i64 a.n]] W fun e w' => e = .returned (.bool false) ∧ Below W.heap.size W w' := fun W => by rw [← k1]; exact knum_any a W
  clear k1
  unfold vlV
  go_enter Tryz.func50, Tryz.ntmps50
  go_wp2_with (first
    | (go_at_call 65; (with_reducible refine (hK _).mono ?_); rintro e w5 ⟨rfl, hq⟩; replace hB := hB.trans (hq.mono hB.size); obtain ⟨a0, a1⟩ := (ha.grow hB).cells; obtain ⟨r0, r1⟩ := (hr.grow hB).cells; obtain ⟨rf0, rf1⟩ := (hr.grow hB).frozen)
    | (go_at_call 79; (with_reducible refine (hU _).mono ?_); rintro e w6 ⟨rfl, hq⟩; replace hB := hB.trans (hq.mono hB.size); obtain ⟨a0, a1⟩ := (ha.grow hB).cells; obtain ⟨r0, r1⟩ := (hr.grow hB).cells; obtain ⟨rf0, rf1⟩ := (hr.grow hB).frozen))
  exact end_one (v := R) rfl rfl (by omega) hb0.out hB hr
set_option maxRecDepth 100000 in
set_option maxHeartbeats 4000000 in
theorem ro_none (op : ByteArray) (a : Vl) (e_isnull : (op.toList == [105, 115, 95, 110, 117, 108, 108]) = false) (e_isnan : (op.toList == [105, 115, 95, 110, 97, 110]) = false) (e_isinf : (op.toList == [105, 115, 95, 105, 110, 102]) = false) (e_isnum : (op.toList == [105, 115, 95, 110, 117, 109, 98, 101, 114]) = false) (e_minus : (op.toList == [45]) = false) (e_abs : (op.toList == [97, 98, 115]) = false) (e_floor : (op.toList == [102, 108, 111, 111, 114]) = false) (e_not : (op.toList == [33]) = false) (w : World) : Calls Tryz.prog 50 #[.string op, vlV a] w fun e w' => e = .returned (.tuple #[vlV zer, .bool false]) ∧ Below w.heap.size w w' := by
  have hb0 : Hid (Below w.heap.size w (wld2 w a)) := bW1 w a
  obtain ⟨ha, hr⟩ := pW1 w a
  replace ha : VlAt (wld2 w a) w.heap.size a := ha
  replace hr : VlAt (wld2 w a) (w.heap.size + 1) zer := hr
  have hB := Below.refl (wld2 w a).heap.size (wld2 w a)
  obtain ⟨a0, a1⟩ := ha.cells
  obtain ⟨r0, r1⟩ := hr.cells
  obtain ⟨rf0, rf1⟩ := hr.frozen
  unfold vlV
  go_enter Tryz.func50, Tryz.ntmps50
  go_wp2
  exact ret_cell2 Tryz.results50 rfl (vlNew1 w _ zer) rfl ⟨rfl, (bW0 w _).alloc (by simp) _⟩
set_option maxRecDepth 100000 in
set_option maxHeartbeats 4000000 in
theorem ro_minus_null (op : ByteArray) (a : Vl) (e_isnull : (op.toList == [105, 115, 95, 110, 117, 108, 108]) = false) (e_isnan : (op.toList == [105, 115, 95, 110, 97, 110]) = false) (e_isinf : (op.toList == [105, 115, 95, 105, 110, 102]) = false) (e_isnum : (op.toList == [105, 115, 95, 110, 117, 109, 98, 101, 114]) = false) (e_minus : (op.toList == [45]) = true) (n1 : (a.kind == 2) = true) (w : World) : Calls Tryz.prog 50 #[.string op, vlV a] w fun e w' => e = .returned (.tuple #[vlV a, .bool true]) ∧ Below w.heap.size w w' := by
  have hb0 : Hid (Below w.heap.size w (wld2 w a)) := bW1 w a
  obtain ⟨ha, hr⟩ := pW1 w a
  replace ha : VlAt (wld2 w a) w.heap.size a := ha
  replace hr : VlAt (wld2 w a) (w.heap.size + 1) zer := hr
  have hB := Below.refl (wld2 w a).heap.size (wld2 w a)
  obtain ⟨a0, a1⟩ := ha.cells
  obtain ⟨r0, r1⟩ := hr.cells
  obtain ⟨rf0, rf1⟩ := hr.frozen
  unfold vlV
  go_enter Tryz.func50, Tryz.ntmps50
  go_wp2
  exact ret_cell2 Tryz.results50 rfl (vlNew1 w _ a) rfl ⟨rfl, (bW0 w _).alloc (by simp) _⟩
set_option maxRecDepth 100000 in
set_option maxHeartbeats 4000000 in
theorem ro_abs_null (op : ByteArray) (a : Vl) (e_isnull : (op.toList == [105, 115, 95, 110, 117, 108, 108]) = false) (e_isnan : (op.toList == [105, 115, 95, 110, 97, 110]) = false) (e_isinf : (op.toList == [105, 115, 95, 105, 110, 102]) = false) (e_isnum : (op.toList == [105, 115, 95, 110, 117, 109, 98, 101, 114]) = false) (e_minus : (op.toList == [45]) = false) (e_abs : (op.toList == [97, 98, 115]) = true) (n1 : (a.kind == 2) = true) (w : World) : Calls Tryz.prog 50 #[.string op, vlV a] w fun e w' => e = .returned (.tuple #[vlV a, .bool true]) ∧ Below w.heap.size w w' := by
  have hb0 : Hid (Below w.heap.size w (wld2 w a)) := bW1 w a
  obtain ⟨ha, hr⟩ := pW1 w a
  replace ha : VlAt (wld2 w a) w.heap.size a := ha
  replace hr : VlAt (wld2 w a) (w.heap.size + 1) zer := hr
  have hB := Below.refl (wld2 w a).heap.size (wld2 w a)
  obtain ⟨a0, a1⟩ := ha.cells
  obtain ⟨r0, r1⟩ := hr.cells
  obtain ⟨rf0, rf1⟩ := hr.frozen
  unfold vlV
  go_enter Tryz.func50, Tryz.ntmps50
  go_wp2
  exact ret_cell2 Tryz.results50 rfl (vlNew1 w _ a) rfl ⟨rfl, (bW0 w _).alloc (by simp) _⟩
set_option maxRecDepth 100000 in
set_option maxHeartbeats 4000000 in
theorem ro_floor_null (op : ByteArray) (a : Vl) (e_isnull : (op.toList == [105, 115, 95, 110, 117, 108, 108]) = false) (e_isnan : (op.toList == [105, 115, 95, 110, 97, 110]) = false) (e_isinf : (op.toList == [105, 115, 95, 105, 110, 102]) = false) (e_isnum : (op.toList == [105, 115, 95, 110, 117, 109, 98, 101, 114]) = false) (e_minus : (op.toList == [45]) = false) (e_abs : (op.toList == [97, 98, 115]) = false) (e_floor : (op.toList == [102, 108, 111, 111, 114]) = true) (n1 : (a.kind == 2) = true) (w : World) : Calls Tryz.prog 50 #[.string op, vlV a] w fun e w' => e = .returned (.tuple #[vlV a, .bool true]) ∧ Below w.heap.size w w' := by
  have hb0 : Hid (Below w.heap.size w (wld2 w a)) := bW1 w a
  obtain ⟨ha, hr⟩ := pW1 w a
  replace ha : VlAt (wld2 w a) w.heap.size a := ha
  replace hr : VlAt (wld2 w a) (w.heap.size + 1) zer := hr
  have hB := Below.refl (wld2 w a).heap.size (wld2 w a)
  obtain ⟨a0, a1⟩ := ha.cells
  obtain ⟨r0, r1⟩ := hr.cells
  obtain ⟨rf0, rf1⟩ := hr.frozen
  unfold vlV
  go_enter Tryz.func50, Tryz.ntmps50
  go_wp2
  exact ret_cell2 Tryz.results50 rfl (vlNew1 w _ a) rfl ⟨rfl, (bW0 w _).alloc (by simp) _⟩
set_option maxRecDepth 100000 in
set_option maxHeartbeats 4000000 in
theorem ro_not_null (op : ByteArray) (a : Vl) (e_isnull : (op.toList == [105, 115, 95, 110, 117, 108, 108]) = false) (e_isnan : (op.toList == [105, 115, 95, 110, 97, 110]) = false) (e_isinf : (op.toList == [105, 115, 95, 105, 110, 102]) = false) (e_isnum : (op.toList == [105, 115, 95, 110, 117, 109, 98, 101, 114]) = false) (e_minus : (op.toList == [45]) = false) (e_abs : (op.toList == [97, 98, 115]) = false) (e_floor : (op.toList == [102, 108, 111, 111, 114]) = false) (e_not : (op.toList == [33]) = true) (n1 : (a.kind == 2) = true) (w : World) : Calls Tryz.prog 50 #[.string op, vlV a] w fun e w' => e = .returned (.tuple #[vlV a, .bool true]) ∧ Below w.heap.size w w' := by
  have hb0 : Hid (Below w.heap.size w (wld2 w a)) := bW1 w a
  obtain ⟨ha, hr⟩ := pW1 w a
  replace ha : VlAt (wld2 w a) w.heap.size a := ha
  replace hr : VlAt (wld2 w a) (w.heap.size + 1) zer := hr
  have hB := Below.refl (wld2 w a).heap.size (wld2 w a)
  obtain ⟨a0, a1⟩ := ha.cells
  obtain ⟨r0, r1⟩ := hr.cells
  obtain ⟨rf0, rf1⟩ := hr.frozen
  unfold vlV
  go_enter Tryz.func50, Tryz.ntmps50
  go_wp2
  exact ret_cell2 Tryz.results50 rfl (vlNew1 w _ a) rfl ⟨rfl, (bW0 w _).alloc (by simp) _⟩
set_option maxRecDepth 100000 in
set_option maxHeartbeats 4000000 in
theorem ro_not_t (op : ByteArray) (a : Vl) (e_isnull : (op.toList == [105, 115, 95, 110, 117, 108, 108]) = false) (e_isnan : (op.toList == [105, 115, 95, 110, 97, 110]) = false) (e_isinf : (op.toList == [105, 115, 95, 105, 110, 102]) = false) (e_isnum : (op.toList == [105, 115, 95, 110, 117, 109, 98, 101, 114]) = false) (e_minus : (op.toList == [45]) = false) (e_abs : (op.toList == [97, 98, 115]) = false) (e_floor : (op.toList == [102, 108, 111, 111, 114]) = false) (e_not : (op.toList == [33]) = true) (n1 : (a.kind == 2) = false) (tA : truB a = true) (w : World) : Calls Tryz.prog 50 #[.string op, vlV a] w fun e w' => e = .returned (.tuple #[vlV (tru false), .bool true]) ∧ Below w.heap.size w w' := by
  obtain ⟨R, hR⟩ : ∃ R, Hid (R = (tru false)) := ⟨_, rfl⟩
  rw [← hR.out]
  have hb0 : Hid (Below w.heap.size w (wld2 w a)) := bW1 w a
  obtain ⟨ha, hr⟩ := pW1 w a
  replace ha : VlAt (wld2 w a) w.heap.size a := ha
  replace hr : VlAt (wld2 w a) (w.heap.size + 1) zer := hr
  have hB := Below.refl (wld2 w a).heap.size (wld2 w a)
  obtain ⟨a0, a1⟩ := ha.cells
  obtain ⟨r0, r1⟩ := hr.cells
  obtain ⟨rf0, rf1⟩ := hr.frozen
  have hU : ∀ W : World, Calls Tryz.prog 79 #[.bool false] W fun e w' => e = .returned (.agg #[.int .i64 R.kind, .int .i64 R.n]) ∧ Below W.heap.size W w' := fun W => by rw [hR.out]; exact rtruth_any false W
  have hT : ∀ W : World, Calls Tryz.prog 52 #[.agg #[.int .i64 a.kind, .int .i64 a.n]] W fun e w' => e = .returned (.bool true) ∧ Below W.heap.size W w' := fun W => by rw [← tA]; exact rtrue_any a W
  clear tA
  unfold vlV
  go_enter Tryz.func50, Tryz.ntmps50
  go_wp2_with (first
    | (go_at_call 52; (with_reducible refine (hT _).mono ?_); rintro e w5 ⟨rfl, hq⟩; replace hB := hB.trans (hq.mono hB.size); obtain ⟨a0, a1⟩ := (ha.grow hB).cells; obtain ⟨r0, r1⟩ := (hr.grow hB).cells; obtain ⟨rf0, rf1⟩ := (hr.grow hB).frozen)
    | (go_at_call 79; (with_reducible refine (hU _).mono ?_); rintro e w6 ⟨rfl, hq⟩; replace hB := hB.trans (hq.mono hB.size); obtain ⟨a0, a1⟩ := (ha.grow hB).cells; obtain ⟨r0, r1⟩ := (hr.grow hB).cells; obtain ⟨rf0, rf1⟩ := (hr.grow hB).frozen))
  exact end_one (v := R) rfl rfl (by omega) hb0.out hB hr
set_option maxRecDepth 100000 in
set_option maxHeartbeats 4000000 in
theorem ro_not_f (op : ByteArray) (a : Vl) (e_isnull : (op.toList == [105, 115, 95, 110, 117, 108, 108]) = false) (e_isnan : (op.toList == [105, 115, 95, 110, 97, 110]) = false) (e_isinf : (op.toList == [105, 115, 95, 105, 110, 102]) = false) (e_isnum : (op.toList == [105, 115, 95, 110, 117, 109, 98, 101, 114]) = false) (e_minus : (op.toList == [45]) = false) (e_abs : (op.toList == [97, 98, 115]) = false) (e_floor : (op.toList == [102, 108, 111, 111, 114]) = false) (e_not : (op.toList == [33]) = true) (n1 : (a.kind == 2) = false) (tA : truB a = false) (w : World) : Calls Tryz.prog 50 #[.string op, vlV a] w fun e w' => e = .returned (.tuple #[vlV (tru true), .bool true]) ∧ Below w.heap.size w w' := by
  obtain ⟨R, hR⟩ : ∃ R, Hid (R = (tru true)) := ⟨_, rfl⟩
  rw [← hR.out]
  have hb0 : Hid (Below w.heap.size w (wld2 w a)) := bW1 w a
  obtain ⟨ha, hr⟩ := pW1 w a
  replace ha : VlAt (wld2 w a) w.heap.size a := ha
  replace hr : VlAt (wld2 w a) (w.heap.size + 1) zer := hr
  have hB := Below.refl (wld2 w a).heap.size (wld2 w a)
  obtain ⟨a0, a1⟩ := ha.cells
  obtain ⟨r0, r1⟩ := hr.cells
  obtain ⟨rf0, rf1⟩ := hr.frozen
  have hU : ∀ W : World, Calls Tryz.prog 79 #[.bool true] W fun e w' => e = .returned (.agg #[.int .i64 R.kind, .int .i64 R.n]) ∧ Below W.heap.size W w' := fun W => by rw [hR.out]; exact rtruth_any true W
  have hT : ∀ W : World, Calls Tryz.prog 52 #[.agg #[.int .i64 a.kind, .int .i64 a.n]] W fun e w' => e = .returned (.bool false) ∧ Below W.heap.size W w' := fun W => by rw [← tA]; exact rtrue_any a W
  clear tA
  unfold vlV
  go_enter Tryz.func50, Tryz.ntmps50
  go_wp2_with (first
    | (go_at_call 52; (with_reducible refine (hT _).mono ?_); rintro e w5 ⟨rfl, hq⟩; replace hB := hB.trans (hq.mono hB.size); obtain ⟨a0, a1⟩ := (ha.grow hB).cells; obtain ⟨r0, r1⟩ := (hr.grow hB).cells; obtain ⟨rf0, rf1⟩ := (hr.grow hB).frozen)
    | (go_at_call 79; (with_reducible refine (hU _).mono ?_); rintro e w6 ⟨rfl, hq⟩; replace hB := hB.trans (hq.mono hB.size); obtain ⟨a0, a1⟩ := (ha.grow hB).cells; obtain ⟨r0, r1⟩ := (hr.grow hB).cells; obtain ⟨rf0, rf1⟩ := (hr.grow hB).frozen))
  exact end_one (v := R) rfl rfl (by omega) hb0.out hB hr
set_option maxRecDepth 100000 in
set_option maxHeartbeats 4000000 in
theorem ro_minus_nan (op : ByteArray) (a : Vl) (e_isnull : (op.toList == [105, 115, 95, 110, 117, 108, 108]) = false) (e_isnan : (op.toList == [105, 115, 95, 110, 97, 110]) = false) (e_isinf : (op.toList == [105, 115, 95, 105, 110, 102]) = false) (e_isnum : (op.toList == [105, 115, 95, 110, 117, 109, 98, 101, 114]) = false) (e_minus : (op.toList == [45]) = true) (e_not : (op.toList == [33]) = false) (e_abs : (op.toList == [97, 98, 115]) = false) (e_floor : (op.toList == [102, 108, 111, 111, 114]) = false) (n1 : (a.kind == 2) = false) (k3 : (a.kind == 3) = true) (w : World) : Calls Tryz.prog 50 #[.string op, vlV a] w fun e w' => e = .returned (.tuple #[vlV a, .bool true]) ∧ Below w.heap.size w w' := by
  have hb0 : Hid (Below w.heap.size w (wld2 w a)) := bW1 w a
  obtain ⟨ha, hr⟩ := pW1 w a
  replace ha : VlAt (wld2 w a) w.heap.size a := ha
  replace hr : VlAt (wld2 w a) (w.heap.size + 1) zer := hr
  have hB := Below.refl (wld2 w a).heap.size (wld2 w a)
  obtain ⟨a0, a1⟩ := ha.cells
  obtain ⟨r0, r1⟩ := hr.cells
  obtain ⟨rf0, rf1⟩ := hr.frozen
  unfold vlV
  go_enter Tryz.func50, Tryz.ntmps50
  go_wp2
  exact ret_cell2 Tryz.results50 rfl (vlNew1 w _ a) rfl ⟨rfl, (bW0 w _).alloc (by simp) _⟩
set_option maxRecDepth 100000 in
set_option maxHeartbeats 4000000 in
theorem ro_abs_nan (op : ByteArray) (a : Vl) (e_isnull : (op.toList == [105, 115, 95, 110, 117, 108, 108]) = false) (e_isnan : (op.toList == [105, 115, 95, 110, 97, 110]) = false) (e_isinf : (op.toList == [105, 115, 95, 105, 110, 102]) = false) (e_isnum : (op.toList == [105, 115, 95, 110, 117, 109, 98, 101, 114]) = false) (e_minus : (op.toList == [45]) = false) (e_abs : (op.toList == [97, 98, 115]) = true) (e_not : (op.toList == [33]) = false) (e_floor : (op.toList == [102, 108, 111, 111, 114]) = false) (n1 : (a.kind == 2) = false) (k3 : (a.kind == 3) = true) (w : World) : Calls Tryz.prog 50 #[.string op, vlV a] w fun e w' => e = .returned (.tuple #[vlV a, .bool true]) ∧ Below w.heap.size w w' := by
  have hb0 : Hid (Below w.heap.size w (wld2 w a)) := bW1 w a
  obtain ⟨ha, hr⟩ := pW1 w a
  replace ha : VlAt (wld2 w a) w.heap.size a := ha
  replace hr : VlAt (wld2 w a) (w.heap.size + 1) zer := hr
  have hB := Below.refl (wld2 w a).heap.size (wld2 w a)
  obtain ⟨a0, a1⟩ := ha.cells
  obtain ⟨r0, r1⟩ := hr.cells
  obtain ⟨rf0, rf1⟩ := hr.frozen
  unfold vlV
  go_enter Tryz.func50, Tryz.ntmps50
  go_wp2
  exact ret_cell2 Tryz.results50 rfl (vlNew1 w _ a) rfl ⟨rfl, (bW0 w _).alloc (by simp) _⟩
set_option maxRecDepth 100000 in
set_option maxHeartbeats 4000000 in
theorem ro_floor_nan (op : ByteArray) (a : Vl) (e_isnull : (op.toList == [105, 115, 95, 110, 117, 108, 108]) = false) (e_isnan : (op.toList == [105, 115, 95, 110, 97, 110]) = false) (e_isinf : (op.toList == [105, 115, 95, 105, 110, 102]) = false) (e_isnum : (op.toList == [105, 115, 95, 110, 117, 109, 98, 101, 114]) = false) (e_minus : (op.toList == [45]) = false) (e_abs : (op.toList == [97, 98, 115]) = false) (e_floor : (op.toList == [102, 108, 111, 111, 114]) = true) (e_not : (op.toList == [33]) = false) (n1 : (a.kind == 2) = false) (k3 : (a.kind == 3) = true) (w : World) : Calls Tryz.prog 50 #[.string op, vlV a] w fun e w' => e = .returned (.tuple #[vlV a, .bool true]) ∧ Below w.heap.size w w' := by
  have hb0 : Hid (Below w.heap.size w (wld2 w a)) := bW1 w a
  obtain ⟨ha, hr⟩ := pW1 w a
  replace ha : VlAt (wld2 w a) w.heap.size a := ha
  replace hr : VlAt (wld2 w a) (w.heap.size + 1) zer := hr
  have hB := Below.refl (wld2 w a).heap.size (wld2 w a)
  obtain ⟨a0, a1⟩ := ha.cells
  obtain ⟨r0, r1⟩ := hr.cells
  obtain ⟨rf0, rf1⟩ := hr.frozen
  unfold vlV
  go_enter Tryz.func50, Tryz.ntmps50
  go_wp2
  exact ret_cell2 Tryz.results50 rfl (vlNew1 w _ a) rfl ⟨rfl, (bW0 w _).alloc (by simp) _⟩
set_option maxRecDepth 100000 in
set_option maxHeartbeats 4000000 in
theorem ro_minus (op : ByteArray) (a : Vl) (hva : IsV a) (e_isnull : (op.toList == [105, 115, 95, 110, 117, 108, 108]) = false) (e_isnan : (op.toList == [105, 115, 95, 110, 97, 110]) = false) (e_isinf : (op.toList == [105, 115, 95, 105, 110, 102]) = false) (e_isnum : (op.toList == [105, 115, 95, 110, 117, 109, 98, 101, 114]) = false) (e_minus : (op.toList == [45]) = true) (e_not : (op.toList == [33]) = false) (e_abs : (op.toList == [97, 98, 115]) = false) (e_floor : (op.toList == [102, 108, 111, 111, 114]) = false) (n1 : (a.kind == 2) = false) (k3 : (a.kind == 3) = false) (w : World) : Calls Tryz.prog 50 #[.string op, vlV a] w fun e w' => e = .returned (.tuple #[vlV (neg a), .bool true]) ∧ Below w.heap.size w w' := by
  obtain ⟨R, hR⟩ : ∃ R, Hid (R = (neg a)) := ⟨_, rfl⟩
  rw [← hR.out]
  have hb0 : Hid (Below w.heap.size w (wld2 w a)) := bW1 w a
  obtain ⟨ha, hr⟩ := pW1 w a
  replace ha : VlAt (wld2 w a) w.heap.size a := ha
  replace hr : VlAt (wld2 w a) (w.heap.size + 1) zer := hr
  have hB := Below.refl (wld2 w a).heap.size (wld2 w a)
  obtain ⟨a0, a1⟩ := ha.cells
  obtain ⟨r0, r1⟩ := hr.cells
  obtain ⟨rf0, rf1⟩ := hr.frozen
  have hT : ∀ W : World, Calls Tryz.prog 81 #[.agg #[.int .i64 a.kind, .int .i64 a.n]] W fun e w' => e = .returned (.agg #[.int .i64 R.kind, .int .i64 R.n]) ∧ Below W.heap.size W w' := fun W => by rw [hR.out]; exact rturned_any a hva W
  clear hva
  unfold vlV
  go_enter Tryz.func50, Tryz.ntmps50
  go_wp2_with (first
    | (go_at_call 81; (with_reducible refine (hT _).mono ?_); rintro e w5 ⟨rfl, hq⟩; replace hB := hB.trans (hq.mono hB.size); obtain ⟨a0, a1⟩ := (ha.grow hB).cells; obtain ⟨r0, r1⟩ := (hr.grow hB).cells; obtain ⟨rf0, rf1⟩ := (hr.grow hB).frozen))
  exact end_one (v := R) rfl rfl (by omega) hb0.out hB hr
set_option maxRecDepth 100000 in
set_option maxHeartbeats 4000000 in
theorem ro_abs_neg (op : ByteArray) (a : Vl) (hva : IsV a) (hs : sgn a < 0) (e_isnull : (op.toList == [105, 115, 95, 110, 117, 108, 108]) = false) (e_isnan : (op.toList == [105, 115, 95, 110, 97, 110]) = false) (e_isinf : (op.toList == [105, 115, 95, 105, 110, 102]) = false) (e_isnum : (op.toList == [105, 115, 95, 110, 117, 109, 98, 101, 114]) = false) (e_minus : (op.toList == [45]) = false) (e_abs : (op.toList == [97, 98, 115]) = true) (e_not : (op.toList == [33]) = false) (e_floor : (op.toList == [102, 108, 111, 111, 114]) = false) (n1 : (a.kind == 2) = false) (k3 : (a.kind == 3) = false) (w : World) : Calls Tryz.prog 50 #[.string op, vlV a] w fun e w' => e = .returned (.tuple #[vlV (neg a), .bool true]) ∧ Below w.heap.size w w' := by
  obtain ⟨R, hR⟩ : ∃ R, Hid (R = (neg a)) := ⟨_, rfl⟩
  rw [← hR.out]
  have hb0 : Hid (Below w.heap.size w (wld2 w a)) := bW1 w a
  obtain ⟨ha, hr⟩ := pW1 w a
  replace ha : VlAt (wld2 w a) w.heap.size a := ha
  replace hr : VlAt (wld2 w a) (w.heap.size + 1) zer := hr
  have hB := Below.refl (wld2 w a).heap.size (wld2 w a)
  obtain ⟨a0, a1⟩ := ha.cells
  obtain ⟨r0, r1⟩ := hr.cells
  obtain ⟨rf0, rf1⟩ := hr.frozen
  obtain ⟨S, hS⟩ : ∃ S, Hid (S = sgn a) := ⟨_, rfl⟩
  have hG : ∀ W : World, Calls Tryz.prog 80 #[.agg #[.int .i64 a.kind, .int .i64 a.n]] W fun e w' => e = .returned (.int .i64 S) ∧ Below W.heap.size W w' := fun W => by rw [hS.out]; exact rsign_any a W
  rw [← hS.out] at hs
  have hT : ∀ W : World, Calls Tryz.prog 81 #[.agg #[.int .i64 a.kind, .int .i64 a.n]] W fun e w' => e = .returned (.agg #[.int .i64 R.kind, .int .i64 R.n]) ∧ Below W.heap.size W w' := fun W => by rw [hR.out]; exact rturned_any a hva W
  clear hva
  unfold vlV
  go_enter Tryz.func50, Tryz.ntmps50
  go_wp2_with (first
    | (go_at_call 80; (with_reducible refine (hG _).mono ?_); rintro e w5 ⟨rfl, hq⟩; replace hB := hB.trans (hq.mono hB.size); obtain ⟨a0, a1⟩ := (ha.grow hB).cells; obtain ⟨r0, r1⟩ := (hr.grow hB).cells; obtain ⟨rf0, rf1⟩ := (hr.grow hB).frozen)
    | (go_at_call 81; (with_reducible refine (hT _).mono ?_); rintro e w6 ⟨rfl, hq⟩; replace hB := hB.trans (hq.mono hB.size); obtain ⟨a0, a1⟩ := (ha.grow hB).cells; obtain ⟨r0, r1⟩ := (hr.grow hB).cells; obtain ⟨rf0, rf1⟩ := (hr.grow hB).frozen))
  exact end_one (v := R) rfl rfl (by omega) hb0.out hB hr
set_option maxRecDepth 100000 in
set_option maxHeartbeats 4000000 in
theorem ro_abs_pos (op : ByteArray) (a : Vl) (hs : ¬ sgn a < 0) (e_isnull : (op.toList == [105, 115, 95, 110, 117, 108, 108]) = false) (e_isnan : (op.toList == [105, 115, 95, 110, 97, 110]) = false) (e_isinf : (op.toList == [105, 115, 95, 105, 110, 102]) = false) (e_isnum : (op.toList == [105, 115, 95, 110, 117, 109, 98, 101, 114]) = false) (e_minus : (op.toList == [45]) = false) (e_abs : (op.toList == [97, 98, 115]) = true) (e_not : (op.toList == [33]) = false) (e_floor : (op.toList == [102, 108, 111, 111, 114]) = false) (n1 : (a.kind == 2) = false) (k3 : (a.kind == 3) = false) (w : World) : Calls Tryz.prog 50 #[.string op, vlV a] w fun e w' => e = .returned (.tuple #[vlV a, .bool true]) ∧ Below w.heap.size w w' := by
  have hb0 : Hid (Below w.heap.size w (wld2 w a)) := bW1 w a
  obtain ⟨ha, hr⟩ := pW1 w a
  replace ha : VlAt (wld2 w a) w.heap.size a := ha
  replace hr : VlAt (wld2 w a) (w.heap.size + 1) zer := hr
  have hB := Below.refl (wld2 w a).heap.size (wld2 w a)
  obtain ⟨a0, a1⟩ := ha.cells
  obtain ⟨r0, r1⟩ := hr.cells
  obtain ⟨rf0, rf1⟩ := hr.frozen
  obtain ⟨S, hS⟩ : ∃ S, Hid (S = sgn a) := ⟨_, rfl⟩
  have hG : ∀ W : World, Calls Tryz.prog 80 #[.agg #[.int .i64 a.kind, .int .i64 a.n]] W fun e w' => e = .returned (.int .i64 S) ∧ Below W.heap.size W w' := fun W => by rw [hS.out]; exact rsign_any a W
  rw [← hS.out] at hs
  unfold vlV
  go_enter Tryz.func50, Tryz.ntmps50
  go_wp2_with (first
    | (go_at_call 80; (with_reducible refine (hG _).mono ?_); rintro e w5 ⟨rfl, hq⟩; replace hB := hB.trans (hq.mono hB.size); obtain ⟨a0, a1⟩ := (ha.grow hB).cells; obtain ⟨r0, r1⟩ := (hr.grow hB).cells; obtain ⟨rf0, rf1⟩ := (hr.grow hB).frozen))
  exact end_one (v := a) rfl rfl (by omega) hb0.out hB hr
set_option maxRecDepth 100000 in
set_option maxHeartbeats 4000000 in
theorem ro_floor_odd (op : ByteArray) (a : Vl) (k1 : (a.kind == 1) = false) (e_isnull : (op.toList == [105, 115, 95, 110, 117, 108, 108]) = false) (e_isnan : (op.toList == [105, 115, 95, 110, 97, 110]) = false) (e_isinf : (op.toList == [105, 115, 95, 105, 110, 102]) = false) (e_isnum : (op.toList == [105, 115, 95, 110, 117, 109, 98, 101, 114]) = false) (e_minus : (op.toList == [45]) = false) (e_abs : (op.toList == [97, 98, 115]) = false) (e_floor : (op.toList == [102, 108, 111, 111, 114]) = true) (e_not : (op.toList == [33]) = false) (n1 : (a.kind == 2) = false) (k3 : (a.kind == 3) = false) (w : World) : Calls Tryz.prog 50 #[.string op, vlV a] w fun e w' => e = .returned (.tuple #[vlV a, .bool true]) ∧ Below w.heap.size w w' := by
  have hb0 : Hid (Below w.heap.size w (wld2 w a)) := bW1 w a
  obtain ⟨ha, hr⟩ := pW1 w a
  replace ha : VlAt (wld2 w a) w.heap.size a := ha
  replace hr : VlAt (wld2 w a) (w.heap.size + 1) zer := hr
  have hB := Below.refl (wld2 w a).heap.size (wld2 w a)
  obtain ⟨a0, a1⟩ := ha.cells
  obtain ⟨r0, r1⟩ := hr.cells
  obtain ⟨rf0, rf1⟩ := hr.frozen
  have hK : ∀ W : World, Calls Tryz.prog 65 #[.agg #[.int .i64 a.kind, .int .i64 a.n]] W fun e w' => e = .returned (.bool false) ∧ Below W.heap.size W w' := fun W => by rw [← k1]; exact knum_any a W
  replace k1 : Hid _ := k1
  unfold vlV
  go_enter Tryz.func50, Tryz.ntmps50
  go_wp2_with (first
    | (go_at_call 65; (with_reducible refine (hK _).mono ?_); rintro e w5 ⟨rfl, hq⟩; replace hB := hB.trans (hq.mono hB.size); obtain ⟨a0, a1⟩ := (ha.grow hB).cells; obtain ⟨r0, r1⟩ := (hr.grow hB).cells; obtain ⟨rf0, rf1⟩ := (hr.grow hB).frozen))
  exact end_one (v := a) rfl rfl (by omega) hb0.out hB hr
set_option maxRecDepth 100000 in
set_option maxHeartbeats 4000000 in
theorem ro_floor_neg (op : ByteArray) (a : Vl) (h1 : -1000000000000000 ≤ a.n) (h2 : a.n ≤ 1000000000000000) (hs : a.n.tmod 1000 < 0) (k1 : (a.kind == 1) = true) (e_isnull : (op.toList == [105, 115, 95, 110, 117, 108, 108]) = false) (e_isnan : (op.toList == [105, 115, 95, 110, 97, 110]) = false) (e_isinf : (op.toList == [105, 115, 95, 105, 110, 102]) = false) (e_isnum : (op.toList == [105, 115, 95, 110, 117, 109, 98, 101, 114]) = false) (e_minus : (op.toList == [45]) = false) (e_abs : (op.toList == [97, 98, 115]) = false) (e_floor : (op.toList == [102, 108, 111, 111, 114]) = true) (e_not : (op.toList == [33]) = false) (n1 : (a.kind == 2) = false) (k3 : (a.kind == 3) = false) (w : World) : Calls Tryz.prog 50 #[.string op, vlV a] w fun e w' => e = .returned (.tuple #[vlV (num (a.n - (a.n.tmod 1000 + 1000))), .bool true]) ∧ Below w.heap.size w w' := by
  obtain ⟨R, hR⟩ : ∃ R, Hid (R = (num (a.n - (a.n.tmod 1000 + 1000)))) := ⟨_, rfl⟩
  rw [← hR.out]
  have hb0 : Hid (Below w.heap.size w (wld2 w a)) := bW1 w a
  obtain ⟨ha, hr⟩ := pW1 w a
  replace ha : VlAt (wld2 w a) w.heap.size a := ha
  replace hr : VlAt (wld2 w a) (w.heap.size + 1) zer := hr
  have hB := Below.refl (wld2 w a).heap.size (wld2 w a)
  obtain ⟨a0, a1⟩ := ha.cells
  obtain ⟨r0, r1⟩ := hr.cells
  obtain ⟨rf0, rf1⟩ := hr.frozen
  have hK : ∀ W : World, Calls Tryz.prog 65 #[.agg #[.int .i64 a.kind, .int .i64 a.n]] W fun e w' => e = .returned (.bool true) ∧ Below W.heap.size W w' := fun W => by rw [← k1]; exact knum_any a W
  replace k1 : Hid _ := k1
  have hmm := Int.tmod_lt_of_pos a.n (by decide : (0 : Int) < 1000)
  have hml := Int.lt_tmod_of_pos a.n (by decide : (0 : Int) < 1000)
  have hM : ∀ W : World, Calls Tryz.prog 27 #[.int .i64 (a.n - (a.n.tmod 1000 + 1000))] W fun e w' => e = .returned (.agg #[.int .i64 R.kind, .int .i64 R.n]) ∧ Below W.heap.size W w' := fun W => by rw [hR.out]; exact rnum_any _ W
  have w1 : wrap64 (a.n.tmod 1000 + 1000) = a.n.tmod 1000 + 1000 := Go.IntWalk.wrap64_in _ (by omega)
  have w2 : wrap64 (a.n - (a.n.tmod 1000 + 1000)) = a.n - (a.n.tmod 1000 + 1000) := Go.IntWalk.wrap64_in _ (by omega)
  unfold vlV
  go_enter Tryz.func50, Tryz.ntmps50
  go_wp2_with (first
    | (go_at_call 65; (with_reducible refine (hK _).mono ?_); rintro e w5 ⟨rfl, hq⟩; replace hB := hB.trans (hq.mono hB.size); obtain ⟨a0, a1⟩ := (ha.grow hB).cells; obtain ⟨r0, r1⟩ := (hr.grow hB).cells; obtain ⟨rf0, rf1⟩ := (hr.grow hB).frozen)
    | (go_at_call 27; (with_reducible refine (hM _).mono ?_); rintro e w6 ⟨rfl, hq⟩; replace hB := hB.trans (hq.mono hB.size); obtain ⟨a0, a1⟩ := (ha.grow hB).cells; obtain ⟨r0, r1⟩ := (hr.grow hB).cells; obtain ⟨rf0, rf1⟩ := (hr.grow hB).frozen))
  exact end_one (v := R) rfl rfl (by omega) hb0.out hB hr
set_option maxRecDepth 100000 in
set_option maxHeartbeats 4000000 in
theorem ro_floor_pos (op : ByteArray) (a : Vl) (h1 : -1000000000000000 ≤ a.n) (h2 : a.n ≤ 1000000000000000) (hs : ¬ a.n.tmod 1000 < 0) (k1 : (a.kind == 1) = true) (e_isnull : (op.toList == [105, 115, 95, 110, 117, 108, 108]) = false) (e_isnan : (op.toList == [105, 115, 95, 110, 97, 110]) = false) (e_isinf : (op.toList == [105, 115, 95, 105, 110, 102]) = false) (e_isnum : (op.toList == [105, 115, 95, 110, 117, 109, 98, 101, 114]) = false) (e_minus : (op.toList == [45]) = false) (e_abs : (op.toList == [97, 98, 115]) = false) (e_floor : (op.toList == [102, 108, 111, 111, 114]) = true) (e_not : (op.toList == [33]) = false) (n1 : (a.kind == 2) = false) (k3 : (a.kind == 3) = false) (w : World) : Calls Tryz.prog 50 #[.string op, vlV a] w fun e w' => e = .returned (.tuple #[vlV (num (a.n - a.n.tmod 1000)), .bool true]) ∧ Below w.heap.size w w' := by
  obtain ⟨R, hR⟩ : ∃ R, Hid (R = (num (a.n - a.n.tmod 1000))) := ⟨_, rfl⟩
  rw [← hR.out]
  have hb0 : Hid (Below w.heap.size w (wld2 w a)) := bW1 w a
  obtain ⟨ha, hr⟩ := pW1 w a
  replace ha : VlAt (wld2 w a) w.heap.size a := ha
  replace hr : VlAt (wld2 w a) (w.heap.size + 1) zer := hr
  have hB := Below.refl (wld2 w a).heap.size (wld2 w a)
  obtain ⟨a0, a1⟩ := ha.cells
  obtain ⟨r0, r1⟩ := hr.cells
  obtain ⟨rf0, rf1⟩ := hr.frozen
  have hK : ∀ W : World, Calls Tryz.prog 65 #[.agg #[.int .i64 a.kind, .int .i64 a.n]] W fun e w' => e = .returned (.bool true) ∧ Below W.heap.size W w' := fun W => by rw [← k1]; exact knum_any a W
  replace k1 : Hid _ := k1
  have hmm := Int.tmod_lt_of_pos a.n (by decide : (0 : Int) < 1000)
  have hml := Int.lt_tmod_of_pos a.n (by decide : (0 : Int) < 1000)
  have hM : ∀ W : World, Calls Tryz.prog 27 #[.int .i64 (a.n - a.n.tmod 1000)] W fun e w' => e = .returned (.agg #[.int .i64 R.kind, .int .i64 R.n]) ∧ Below W.heap.size W w' := fun W => by rw [hR.out]; exact rnum_any _ W
  have w2 : wrap64 (a.n - a.n.tmod 1000) = a.n - a.n.tmod 1000 := Go.IntWalk.wrap64_in _ (by omega)
  unfold vlV
  go_enter Tryz.func50, Tryz.ntmps50
  go_wp2_with (first
    | (go_at_call 65; (with_reducible refine (hK _).mono ?_); rintro e w5 ⟨rfl, hq⟩; replace hB := hB.trans (hq.mono hB.size); obtain ⟨a0, a1⟩ := (ha.grow hB).cells; obtain ⟨r0, r1⟩ := (hr.grow hB).cells; obtain ⟨rf0, rf1⟩ := (hr.grow hB).frozen)
    | (go_at_call 27; (with_reducible refine (hM _).mono ?_); rintro e w6 ⟨rfl, hq⟩; replace hB := hB.trans (hq.mono hB.size); obtain ⟨a0, a1⟩ := (ha.grow hB).cells; obtain ⟨r0, r1⟩ := (hr.grow hB).cells; obtain ⟨rf0, rf1⟩ := (hr.grow hB).frozen))
  exact end_one (v := R) rfl rfl (by omega) hb0.out hB hr
theorem odd_neg {a : Vl} (hva : IsV a) (h : (a.kind == 2) = true ∨ (a.kind == 3) = true) : neg a = a := by
  rcases hva with ⟨h1, _⟩ | ⟨h1, h2, h3⟩
  · rw [h1] at h; rcases h with h | h <;> cases h
  · have hk : a.kind ≠ 4 ∧ a.kind ≠ 5 := by rcases h with h | h <;> (have := eq_of_beq h; omega)
    unfold neg
    rw [if_neg hk.1, if_neg hk.2, h3]
    cases a
    simp only at h3
    rw [h3]
    rfl
theorem floor_num (n : Int) (h1 : -1000000000000000 ≤ n) (h2 : n ≤ 1000000000000000) : (n.tmod 1000 < 0 → num (n - (n.tmod 1000 + 1000)) = ⟨1, n - n % 1000⟩) ∧ (¬ n.tmod 1000 < 0 → num (n - n.tmod 1000) = ⟨1, n - n % 1000⟩) := by
  have h3 := Int.tmod_def n 1000
  have h4 := Int.tmod_lt_of_pos n (by decide : (0 : Int) < 1000)
  have h5 := Int.lt_tmod_of_pos n (by decide : (0 : Int) < 1000)
  have e1 : n.tmod 1000 < 0 → n.tmod 1000 + 1000 = n % 1000 := fun h => by omega
  have e2 : ¬ n.tmod 1000 < 0 → n.tmod 1000 = n % 1000 := fun h => by omega
  refine ⟨fun h => ?_, fun h => ?_⟩
  · rw [e1 h]; unfold num; rw [if_neg (by omega), if_neg (by omega)]
  · rw [e2 h]; unfold num; rw [if_neg (by omega), if_neg (by omega)]
theorem rone_isnull (a : Vl) (hva : IsV a) (w : World) : Calls Tryz.prog 50 #[.string ⟨#[105, 115, 95, 110, 117, 108, 108]⟩, vlV a] w fun e w' => TwoR (tru (a.kind == 2)) w e w' := by
  unfold TwoR
  cases k1 : (a.kind == 2) with
  | true => exact ro_isnull_t _ a (by decide +kernel) k1 w
  | false => exact ro_isnull_f _ a (by decide +kernel) k1 w
theorem rone_isnan (a : Vl) (hva : IsV a) (w : World) : Calls Tryz.prog 50 #[.string ⟨#[105, 115, 95, 110, 97, 110]⟩, vlV a] w fun e w' => TwoR (tru (a.kind == 3)) w e w' := by
  unfold TwoR
  cases k1 : (a.kind == 3) with
  | true => exact ro_isnan_t _ a (by decide +kernel) (by decide +kernel) k1 w
  | false => exact ro_isnan_f _ a (by decide +kernel) (by decide +kernel) k1 w
theorem rone_isnum (a : Vl) (hva : IsV a) (w : World) : Calls Tryz.prog 50 #[.string ⟨#[105, 115, 95, 110, 117, 109, 98, 101, 114]⟩, vlV a] w fun e w' => TwoR (tru (a.kind == 1)) w e w' := by
  unfold TwoR
  cases k1 : (a.kind == 1) with
  | true => exact ro_isnum_t _ a (by decide +kernel) (by decide +kernel) (by decide +kernel) (by decide +kernel) k1 w
  | false => exact ro_isnum_f _ a (by decide +kernel) (by decide +kernel) (by decide +kernel) (by decide +kernel) k1 w
theorem rone_isinf (a : Vl) (hva : IsV a) (w : World) : Calls Tryz.prog 50 #[.string ⟨#[105, 115, 95, 105, 110, 102]⟩, vlV a] w fun e w' => TwoR (tru (a.kind == 4 || a.kind == 5)) w e w' := by
  unfold TwoR
  cases k1 : (a.kind == 4) with
  | true => exact ro_isinf_1 _ a (by decide +kernel) (by decide +kernel) (by decide +kernel) k1 w
  | false =>
    cases k2 : (a.kind == 5) with
    | true => exact ro_isinf_t _ a (by decide +kernel) (by decide +kernel) (by decide +kernel) k1 k2 w
    | false => exact ro_isinf_f _ a (by decide +kernel) (by decide +kernel) (by decide +kernel) k1 k2 w
theorem rone_not (a : Vl) (hva : IsV a) (w : World) : Calls Tryz.prog 50 #[.string ⟨#[33]⟩, vlV a] w fun e w' => TwoR (notV a) w e w' := by
  unfold TwoR
  unfold notV
  cases n1 : (a.kind == 2) with
  | true => rw [if_pos (eq_of_beq n1)]; exact ro_not_null _ a (by decide +kernel) (by decide +kernel) (by decide +kernel) (by decide +kernel) (by decide +kernel) (by decide +kernel) (by decide +kernel) (by decide +kernel) n1 w
  | false =>
    rw [if_neg (by intro e; simp [e] at n1)]
    cases tA : truB a with
    | true => exact ro_not_t _ a (by decide +kernel) (by decide +kernel) (by decide +kernel) (by decide +kernel) (by decide +kernel) (by decide +kernel) (by decide +kernel) (by decide +kernel) n1 tA w
    | false => exact ro_not_f _ a (by decide +kernel) (by decide +kernel) (by decide +kernel) (by decide +kernel) (by decide +kernel) (by decide +kernel) (by decide +kernel) (by decide +kernel) n1 tA w
theorem rone_minus (a : Vl) (hva : IsV a) (w : World) : Calls Tryz.prog 50 #[.string ⟨#[45]⟩, vlV a] w fun e w' => TwoR (negV a) w e w' := by
  unfold TwoR
  unfold negV
  cases n1 : (a.kind == 2) with
  | true => rw [odd_neg hva (.inl n1)]; exact ro_minus_null _ a (by decide +kernel) (by decide +kernel) (by decide +kernel) (by decide +kernel) (by decide +kernel) n1 w
  | false =>
    cases k3 : (a.kind == 3) with
    | true => rw [odd_neg hva (.inr k3)]; exact ro_minus_nan _ a (by decide +kernel) (by decide +kernel) (by decide +kernel) (by decide +kernel) (by decide +kernel) (by decide +kernel) (by decide +kernel) (by decide +kernel) n1 k3 w
    | false => exact ro_minus _ a hva (by decide +kernel) (by decide +kernel) (by decide +kernel) (by decide +kernel) (by decide +kernel) (by decide +kernel) (by decide +kernel) (by decide +kernel) n1 k3 w
theorem rone_abs (a : Vl) (hva : IsV a) (w : World) : Calls Tryz.prog 50 #[.string ⟨#[97, 98, 115]⟩, vlV a] w fun e w' => TwoR (absV a) w e w' := by
  unfold TwoR
  unfold absV
  cases n1 : (a.kind == 2) with
  | true => rw [show (if sgn a < 0 then neg a else a) = a by rw [odd_neg hva (.inl n1)]; split <;> rfl]; exact ro_abs_null _ a (by decide +kernel) (by decide +kernel) (by decide +kernel) (by decide +kernel) (by decide +kernel) (by decide +kernel) n1 w
  | false =>
    cases k3 : (a.kind == 3) with
    | true => rw [show (if sgn a < 0 then neg a else a) = a by rw [odd_neg hva (.inr k3)]; split <;> rfl]; exact ro_abs_nan _ a (by decide +kernel) (by decide +kernel) (by decide +kernel) (by decide +kernel) (by decide +kernel) (by decide +kernel) (by decide +kernel) (by decide +kernel) n1 k3 w
    | false =>
      by_cases hs : sgn a < 0
      · rw [if_pos hs]; exact ro_abs_neg _ a hva hs (by decide +kernel) (by decide +kernel) (by decide +kernel) (by decide +kernel) (by decide +kernel) (by decide +kernel) (by decide +kernel) (by decide +kernel) n1 k3 w
      · rw [if_neg hs]; exact ro_abs_pos _ a hs (by decide +kernel) (by decide +kernel) (by decide +kernel) (by decide +kernel) (by decide +kernel) (by decide +kernel) (by decide +kernel) (by decide +kernel) n1 k3 w
theorem rone_floor (a : Vl) (hva : IsV a) (w : World) : Calls Tryz.prog 50 #[.string ⟨#[102, 108, 111, 111, 114]⟩, vlV a] w fun e w' => TwoR (floorV a) w e w' := by
  unfold TwoR
  unfold floorV
  cases n1 : (a.kind == 2) with
  | true => rw [if_neg (by intro e; rw [e] at n1; cases n1)]; exact ro_floor_null _ a (by decide +kernel) (by decide +kernel) (by decide +kernel) (by decide +kernel) (by decide +kernel) (by decide +kernel) (by decide +kernel) n1 w
  | false =>
    cases k3 : (a.kind == 3) with
    | true => rw [if_neg (by intro e; rw [e] at k3; cases k3)]; exact ro_floor_nan _ a (by decide +kernel) (by decide +kernel) (by decide +kernel) (by decide +kernel) (by decide +kernel) (by decide +kernel) (by decide +kernel) (by decide +kernel) n1 k3 w
    | false =>
      cases k1 : (a.kind == 1) with
      | false => rw [if_neg (by intro e; simp [e] at k1)]; exact ro_floor_odd _ a k1 (by decide +kernel) (by decide +kernel) (by decide +kernel) (by decide +kernel) (by decide +kernel) (by decide +kernel) (by decide +kernel) (by decide +kernel) n1 k3 w
      | true =>
        have hk := eq_of_beq k1
        rw [if_pos hk]
        obtain ⟨h1, h2⟩ : -1000000000000000 ≤ a.n ∧ a.n ≤ 1000000000000000 := by rcases hva with ⟨_, h⟩ | ⟨h, _⟩; exact h; omega
        by_cases hs : a.n.tmod 1000 < 0
        · rw [← (floor_num a.n h1 h2).1 hs]; exact ro_floor_neg _ a h1 h2 hs k1 (by decide +kernel) (by decide +kernel) (by decide +kernel) (by decide +kernel) (by decide +kernel) (by decide +kernel) (by decide +kernel) (by decide +kernel) n1 k3 w
        · rw [← (floor_num a.n h1 h2).2 hs]; exact ro_floor_pos _ a h1 h2 hs k1 (by decide +kernel) (by decide +kernel) (by decide +kernel) (by decide +kernel) (by decide +kernel) (by decide +kernel) (by decide +kernel) (by decide +kernel) n1 k3 w
/-- The document's one. -/
theorem rone_any (op : ByteArray) (a : Vl) (hva : IsV a) (w : World) : Calls Tryz.prog 50 #[.string op, vlV a] w fun e w' => e = .returned (.tuple #[vlV ((one op a).getD zer), .bool (one op a).isSome]) ∧ Below w.heap.size w w' := by
  by_cases h_minus : op = ⟨#[45]⟩
  · subst h_minus; rw [show one ⟨#[45]⟩ a = some (negV a) by simp [one]]; exact rone_minus a hva w
  by_cases h_abs : op = ⟨#[97, 98, 115]⟩
  · subst h_abs; rw [show one ⟨#[97, 98, 115]⟩ a = some (absV a) by simp [one]]; exact rone_abs a hva w
  by_cases h_floor : op = ⟨#[102, 108, 111, 111, 114]⟩
  · subst h_floor; rw [show one ⟨#[102, 108, 111, 111, 114]⟩ a = some (floorV a) by simp [one]]; exact rone_floor a hva w
  by_cases h_not : op = ⟨#[33]⟩
  · subst h_not; rw [show one ⟨#[33]⟩ a = some (notV a) by simp [one]]; exact rone_not a hva w
  by_cases h_isnull : op = ⟨#[105, 115, 95, 110, 117, 108, 108]⟩
  · subst h_isnull; rw [show one ⟨#[105, 115, 95, 110, 117, 108, 108]⟩ a = some (tru (a.kind == 2)) by simp [one]]; exact rone_isnull a hva w
  by_cases h_isnan : op = ⟨#[105, 115, 95, 110, 97, 110]⟩
  · subst h_isnan; rw [show one ⟨#[105, 115, 95, 110, 97, 110]⟩ a = some (tru (a.kind == 3)) by simp [one]]; exact rone_isnan a hva w
  by_cases h_isinf : op = ⟨#[105, 115, 95, 105, 110, 102]⟩
  · subst h_isinf; rw [show one ⟨#[105, 115, 95, 105, 110, 102]⟩ a = some (tru (a.kind == 4 || a.kind == 5)) by simp [one]]; exact rone_isinf a hva w
  by_cases h_isnum : op = ⟨#[105, 115, 95, 110, 117, 109, 98, 101, 114]⟩
  · subst h_isnum; rw [show one ⟨#[105, 115, 95, 110, 117, 109, 98, 101, 114]⟩ a = some (tru (a.kind == 1)) by simp [one]]; exact rone_isnum a hva w
  have h2 : one op a = none := by unfold one; rw [if_neg h_minus, if_neg h_abs, if_neg h_floor, if_neg h_not, if_neg h_isnull, if_neg h_isnan, if_neg h_isinf, if_neg h_isnum]
  have hne : ∀ s, op ≠ s → (op.toList == s.toList) = false := fun s h => by
    cases hh : (op.toList == s.toList) with
    | false => rfl
    | true => exact absurd (toList_eq hh) h
  rw [h2]
  exact ro_none op a (by rw [show ([105, 115, 95, 110, 117, 108, 108] : List UInt8) = (⟨#[105, 115, 95, 110, 117, 108, 108]⟩ : ByteArray).toList by decide +kernel]; exact hne _ h_isnull) (by rw [show ([105, 115, 95, 110, 97, 110] : List UInt8) = (⟨#[105, 115, 95, 110, 97, 110]⟩ : ByteArray).toList by decide +kernel]; exact hne _ h_isnan) (by rw [show ([105, 115, 95, 105, 110, 102] : List UInt8) = (⟨#[105, 115, 95, 105, 110, 102]⟩ : ByteArray).toList by decide +kernel]; exact hne _ h_isinf) (by rw [show ([105, 115, 95, 110, 117, 109, 98, 101, 114] : List UInt8) = (⟨#[105, 115, 95, 110, 117, 109, 98, 101, 114]⟩ : ByteArray).toList by decide +kernel]; exact hne _ h_isnum) (by rw [show ([45] : List UInt8) = (⟨#[45]⟩ : ByteArray).toList by decide +kernel]; exact hne _ h_minus) (by rw [show ([97, 98, 115] : List UInt8) = (⟨#[97, 98, 115]⟩ : ByteArray).toList by decide +kernel]; exact hne _ h_abs) (by rw [show ([102, 108, 111, 111, 114] : List UInt8) = (⟨#[102, 108, 111, 111, 114]⟩ : ByteArray).toList by decide +kernel]; exact hne _ h_floor) (by rw [show ([33] : List UInt8) = (⟨#[33]⟩ : ByteArray).toList by decide +kernel]; exact hne _ h_not) w
end Go.Proofs.YtejdmielhaldaaaGreat
