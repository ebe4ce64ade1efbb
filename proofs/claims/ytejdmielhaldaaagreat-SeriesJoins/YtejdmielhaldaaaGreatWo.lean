/- The document's two, whole. -/
import Derived.Test.YtejdmielhaldaaaGreatWl
import Derived.Test.YtejdmielhaldaaaGreatWn
import Derived.Test.YtejdmielhaldaaaGreatVa2
namespace Go.Proofs.YtejdmielhaldaaaGreat
set_option linter.unusedVariables false
open Go.RowKit
theorem nulls_1 {a b v : Vl} (h : (a.kind == 2) = true) : nulls a b v = nul := by unfold nulls; rw [if_pos (.inl (by simpa using h))]
theorem nulls_2 {a b v : Vl} (h : (b.kind == 2) = true) : nulls a b v = nul := by unfold nulls; rw [if_pos (.inr (by simpa using h))]
theorem nulls_0 {a b v : Vl} (h : (a.kind == 2) = false) (g : (b.kind == 2) = false) : nulls a b v = v := by unfold nulls; rw [if_neg (by rintro (e | e) <;> simp [e] at h g)]
theorem nans_1 {a b v : Vl} (h : (a.kind == 2) = false) (g : (b.kind == 2) = false) (k : (a.kind == 3) = true) : nans a b v = nan := by unfold nans; rw [nulls_0 h g, if_pos (.inl (by simpa using k))]
theorem nans_2 {a b v : Vl} (h : (a.kind == 2) = false) (g : (b.kind == 2) = false) (k : (b.kind == 3) = true) : nans a b v = nan := by unfold nans; rw [nulls_0 h g, if_pos (.inr (by simpa using k))]
theorem nans_0 {a b v : Vl} (h : (a.kind == 2) = false) (g : (b.kind == 2) = false) (k : (a.kind == 3) = false) (m : (b.kind == 3) = false) : nans a b v = v := by unfold nans; rw [nulls_0 h g, if_neg (by rintro (e | e) <;> simp [e] at k m)]
theorem ordy_b {a : Vl} (h : (a.kind == 2) = false) (k : (a.kind == 3) = false) : Ordy a := ⟨by simpa using h, by simpa using k⟩
theorem eq_b {a b : Vl} : decide (a = b) = ((a.kind == b.kind) && (a.n == b.n)) := by
  cases a; cases b
  simp only [Vl.mk.injEq, Bool.decide_and]
  rfl
/-- What two tells. -/
def TwoR (v : Vl) (w : World) (e : Ending) (w' : World) : Prop := e = .returned (.tuple #[vlV v, .bool true]) ∧ Below w.heap.size w w'
theorem rtwo_plus (a b : Vl) (hva : IsV a) (hvb : IsV b) (w : World) : Calls Tryz.prog 51 #[.string ⟨#[43]⟩, vlV a, vlV b] w fun e w' => TwoR (addV a b) w e w' := by
  have hkn : kn ⟨#[43]⟩ 12 = true := by decide +kernel
  unfold TwoR addV
  cases n1 : (a.kind == 2) with
  | true => rw [nans, nulls_1 n1]; exact rt_null1 _ a b hkn n1 w
  | false =>
    cases n2 : (b.kind == 2) with
    | true => rw [nans, nulls_2 n2]; exact rt_null2 _ a b hkn n1 n2 w
    | false =>
      cases k1 : (a.kind == 3) with
      | true => rw [nans_1 n1 n2 k1]; exact rt_nan1 _ a b hkn n1 n2 (by decide +kernel) (by decide +kernel) (by decide +kernel) (by decide +kernel) (by decide +kernel) (by decide +kernel) (by decide +kernel) (by decide +kernel) k1 w
      | false =>
        cases k2 : (b.kind == 3) with
        | true => rw [nans_2 n1 n2 k2]; exact rt_nan2 _ a b hkn n1 n2 (by decide +kernel) (by decide +kernel) (by decide +kernel) (by decide +kernel) (by decide +kernel) (by decide +kernel) (by decide +kernel) (by decide +kernel) k1 k2 w
        | false => rw [nans_0 n1 n2 k1 k2]; exact rt_plus _ a b hva hvb (ordy_b n1 k1) (ordy_b n2 k2) hkn n1 n2 (by decide +kernel) (by decide +kernel) (by decide +kernel) (by decide +kernel) (by decide +kernel) (by decide +kernel) (by decide +kernel) (by decide +kernel) k1 k2 (by decide +kernel) w
theorem rtwo_minus (a b : Vl) (hva : IsV a) (hvb : IsV b) (w : World) : Calls Tryz.prog 51 #[.string ⟨#[45]⟩, vlV a, vlV b] w fun e w' => TwoR (subV a b) w e w' := by
  have hkn : kn ⟨#[45]⟩ 12 = true := by decide +kernel
  unfold TwoR subV
  cases n1 : (a.kind == 2) with
  | true => rw [nans, nulls_1 n1]; exact rt_null1 _ a b hkn n1 w
  | false =>
    cases n2 : (b.kind == 2) with
    | true => rw [nans, nulls_2 n2]; exact rt_null2 _ a b hkn n1 n2 w
    | false =>
      cases k1 : (a.kind == 3) with
      | true => rw [nans_1 n1 n2 k1]; exact rt_nan1 _ a b hkn n1 n2 (by decide +kernel) (by decide +kernel) (by decide +kernel) (by decide +kernel) (by decide +kernel) (by decide +kernel) (by decide +kernel) (by decide +kernel) k1 w
      | false =>
        cases k2 : (b.kind == 3) with
        | true => rw [nans_2 n1 n2 k2]; exact rt_nan2 _ a b hkn n1 n2 (by decide +kernel) (by decide +kernel) (by decide +kernel) (by decide +kernel) (by decide +kernel) (by decide +kernel) (by decide +kernel) (by decide +kernel) k1 k2 w
        | false => rw [nans_0 n1 n2 k1 k2]; exact rt_minus _ a b hva hvb (ordy_b n1 k1) (ordy_b n2 k2) hkn n1 n2 (by decide +kernel) (by decide +kernel) (by decide +kernel) (by decide +kernel) (by decide +kernel) (by decide +kernel) (by decide +kernel) (by decide +kernel) k1 k2 (by decide +kernel) (by decide +kernel) w
theorem rtwo_star (a b : Vl) (hva : IsV a) (hvb : IsV b) (w : World) : Calls Tryz.prog 51 #[.string ⟨#[42]⟩, vlV a, vlV b] w fun e w' => TwoR (mulV a b) w e w' := by
  have hkn : kn ⟨#[42]⟩ 12 = true := by decide +kernel
  unfold TwoR mulV
  cases n1 : (a.kind == 2) with
  | true => rw [nans, nulls_1 n1]; exact rt_null1 _ a b hkn n1 w
  | false =>
    cases n2 : (b.kind == 2) with
    | true => rw [nans, nulls_2 n2]; exact rt_null2 _ a b hkn n1 n2 w
    | false =>
      cases k1 : (a.kind == 3) with
      | true => rw [nans_1 n1 n2 k1]; exact rt_nan1 _ a b hkn n1 n2 (by decide +kernel) (by decide +kernel) (by decide +kernel) (by decide +kernel) (by decide +kernel) (by decide +kernel) (by decide +kernel) (by decide +kernel) k1 w
      | false =>
        cases k2 : (b.kind == 3) with
        | true => rw [nans_2 n1 n2 k2]; exact rt_nan2 _ a b hkn n1 n2 (by decide +kernel) (by decide +kernel) (by decide +kernel) (by decide +kernel) (by decide +kernel) (by decide +kernel) (by decide +kernel) (by decide +kernel) k1 k2 w
        | false => rw [nans_0 n1 n2 k1 k2]; exact rt_star _ a b hva hvb (ordy_b n1 k1) (ordy_b n2 k2) hkn n1 n2 (by decide +kernel) (by decide +kernel) (by decide +kernel) (by decide +kernel) (by decide +kernel) (by decide +kernel) (by decide +kernel) (by decide +kernel) k1 k2 (by decide +kernel) (by decide +kernel) (by decide +kernel) w
theorem rtwo_slash (a b : Vl) (hva : IsV a) (hvb : IsV b) (w : World) : Calls Tryz.prog 51 #[.string ⟨#[47]⟩, vlV a, vlV b] w fun e w' => TwoR (divV a b) w e w' := by
  have hkn : kn ⟨#[47]⟩ 12 = true := by decide +kernel
  unfold TwoR divV
  cases n1 : (a.kind == 2) with
  | true => rw [nans, nulls_1 n1]; exact rt_null1 _ a b hkn n1 w
  | false =>
    cases n2 : (b.kind == 2) with
    | true => rw [nans, nulls_2 n2]; exact rt_null2 _ a b hkn n1 n2 w
    | false =>
      cases k1 : (a.kind == 3) with
      | true => rw [nans_1 n1 n2 k1]; exact rt_nan1 _ a b hkn n1 n2 (by decide +kernel) (by decide +kernel) (by decide +kernel) (by decide +kernel) (by decide +kernel) (by decide +kernel) (by decide +kernel) (by decide +kernel) k1 w
      | false =>
        cases k2 : (b.kind == 3) with
        | true => rw [nans_2 n1 n2 k2]; exact rt_nan2 _ a b hkn n1 n2 (by decide +kernel) (by decide +kernel) (by decide +kernel) (by decide +kernel) (by decide +kernel) (by decide +kernel) (by decide +kernel) (by decide +kernel) k1 k2 w
        | false => rw [nans_0 n1 n2 k1 k2]; exact rt_slash _ a b hva hvb (ordy_b n1 k1) (ordy_b n2 k2) hkn n1 n2 (by decide +kernel) (by decide +kernel) (by decide +kernel) (by decide +kernel) (by decide +kernel) (by decide +kernel) (by decide +kernel) (by decide +kernel) k1 k2 (by decide +kernel) (by decide +kernel) (by decide +kernel) w
theorem rtwo_eq (a b : Vl) (hva : IsV a) (hvb : IsV b) (w : World) : Calls Tryz.prog 51 #[.string ⟨#[61, 61]⟩, vlV a, vlV b] w fun e w' => TwoR (eqV a b) w e w' := by
  have hkn : kn ⟨#[61, 61]⟩ 12 = true := by decide +kernel
  unfold TwoR eqV
  cases n1 : (a.kind == 2) with
  | true => rw [nulls_1 n1]; exact rt_null1 _ a b hkn n1 w
  | false =>
    cases n2 : (b.kind == 2) with
    | true => rw [nulls_2 n2]; exact rt_null2 _ a b hkn n1 n2 w
    | false =>
      rw [nulls_0 n1 n2]
      cases k1 : (a.kind == 3) with
      | true => rw [show noB a b = true by simp [noB, k1]]; exact rt_eq_n1 _ a b hkn n1 n2 (by decide +kernel) (by decide +kernel) (by decide +kernel) k1 w
      | false =>
        cases k2 : (b.kind == 3) with
        | true => rw [show noB a b = true by simp [noB, k2]]; exact rt_eq_n2 _ a b hkn n1 n2 (by decide +kernel) (by decide +kernel) (by decide +kernel) k1 k2 w
        | false =>
          rw [show noB a b = false by simp [noB, k1, k2]]
          rw [eq_b]
          cases q1 : (a.kind == b.kind) with
          | false => exact rt_eq_2 _ a b hkn n1 n2 (by decide +kernel) (by decide +kernel) (by decide +kernel) k1 k2 q1 w
          | true =>
            cases q2 : (a.n == b.n) with
            | false => exact rt_eq_1 _ a b hkn n1 n2 (by decide +kernel) (by decide +kernel) (by decide +kernel) k1 k2 q1 q2 w
            | true => exact rt_eq_0 _ a b hkn n1 n2 (by decide +kernel) (by decide +kernel) (by decide +kernel) k1 k2 q1 q2 w
theorem rtwo_ne (a b : Vl) (hva : IsV a) (hvb : IsV b) (w : World) : Calls Tryz.prog 51 #[.string ⟨#[33, 61]⟩, vlV a, vlV b] w fun e w' => TwoR (neV a b) w e w' := by
  have hkn : kn ⟨#[33, 61]⟩ 12 = true := by decide +kernel
  unfold TwoR neV
  cases n1 : (a.kind == 2) with
  | true => rw [nulls_1 n1]; exact rt_null1 _ a b hkn n1 w
  | false =>
    cases n2 : (b.kind == 2) with
    | true => rw [nulls_2 n2]; exact rt_null2 _ a b hkn n1 n2 w
    | false =>
      rw [nulls_0 n1 n2]
      cases k1 : (a.kind == 3) with
      | true => rw [show noB a b = true by simp [noB, k1]]; exact rt_ne_n1 _ a b hkn n1 n2 (by decide +kernel) (by decide +kernel) (by decide +kernel) (by decide +kernel) k1 w
      | false =>
        cases k2 : (b.kind == 3) with
        | true => rw [show noB a b = true by simp [noB, k2]]; exact rt_ne_n2 _ a b hkn n1 n2 (by decide +kernel) (by decide +kernel) (by decide +kernel) (by decide +kernel) k1 k2 w
        | false =>
          rw [show noB a b = false by simp [noB, k1, k2]]
          rw [show decide (a ≠ b) = !((a.kind == b.kind) && (a.n == b.n)) by rw [← eq_b]; exact decide_not]
          cases q1 : (a.kind == b.kind) with
          | false => exact rt_ne_2 _ a b hkn n1 n2 (by decide +kernel) (by decide +kernel) (by decide +kernel) (by decide +kernel) k1 k2 q1 w
          | true =>
            cases q2 : (a.n == b.n) with
            | false => exact rt_ne_1 _ a b hkn n1 n2 (by decide +kernel) (by decide +kernel) (by decide +kernel) (by decide +kernel) k1 k2 q1 q2 w
            | true => exact rt_ne_0 _ a b hkn n1 n2 (by decide +kernel) (by decide +kernel) (by decide +kernel) (by decide +kernel) k1 k2 q1 q2 w
theorem rtwo_lt (a b : Vl) (hva : IsV a) (hvb : IsV b) (w : World) : Calls Tryz.prog 51 #[.string ⟨#[60]⟩, vlV a, vlV b] w fun e w' => TwoR (ltV a b) w e w' := by
  have hkn : kn ⟨#[60]⟩ 12 = true := by decide +kernel
  unfold TwoR ltV
  cases n1 : (a.kind == 2) with
  | true => rw [nulls_1 n1]; exact rt_null1 _ a b hkn n1 w
  | false =>
    cases n2 : (b.kind == 2) with
    | true => rw [nulls_2 n2]; exact rt_null2 _ a b hkn n1 n2 w
    | false =>
      rw [nulls_0 n1 n2]
      cases k1 : (a.kind == 3) with
      | true => rw [show noB a b = true by simp [noB, k1]]; exact rt_lt_n1 _ a b hkn n1 n2 (by decide +kernel) (by decide +kernel) (by decide +kernel) (by decide +kernel) (by decide +kernel) k1 w
      | false =>
        cases k2 : (b.kind == 3) with
        | true => rw [show noB a b = true by simp [noB, k2]]; exact rt_lt_n2 _ a b hkn n1 n2 (by decide +kernel) (by decide +kernel) (by decide +kernel) (by decide +kernel) (by decide +kernel) k1 k2 w
        | false =>
          rw [show noB a b = false by simp [noB, k1, k2]]
          cases tL : lessB a b with
          | false => exact rt_lt_f _ a b hva hvb (ordy_b n1 k1) (ordy_b n2 k2) hkn n1 n2 (by decide +kernel) (by decide +kernel) (by decide +kernel) (by decide +kernel) (by decide +kernel) k1 k2 tL w
          | true => exact rt_lt_t _ a b hva hvb (ordy_b n1 k1) (ordy_b n2 k2) hkn n1 n2 (by decide +kernel) (by decide +kernel) (by decide +kernel) (by decide +kernel) (by decide +kernel) k1 k2 tL w
theorem rtwo_le (a b : Vl) (hva : IsV a) (hvb : IsV b) (w : World) : Calls Tryz.prog 51 #[.string ⟨#[60, 61]⟩, vlV a, vlV b] w fun e w' => TwoR (leV a b) w e w' := by
  have hkn : kn ⟨#[60, 61]⟩ 12 = true := by decide +kernel
  unfold TwoR leV
  cases n1 : (a.kind == 2) with
  | true => rw [nulls_1 n1]; exact rt_null1 _ a b hkn n1 w
  | false =>
    cases n2 : (b.kind == 2) with
    | true => rw [nulls_2 n2]; exact rt_null2 _ a b hkn n1 n2 w
    | false =>
      rw [nulls_0 n1 n2]
      cases k1 : (a.kind == 3) with
      | true => rw [show noB a b = true by simp [noB, k1]]; exact rt_le_n1 _ a b hkn n1 n2 (by decide +kernel) (by decide +kernel) (by decide +kernel) (by decide +kernel) (by decide +kernel) (by decide +kernel) k1 w
      | false =>
        cases k2 : (b.kind == 3) with
        | true => rw [show noB a b = true by simp [noB, k2]]; exact rt_le_n2 _ a b hkn n1 n2 (by decide +kernel) (by decide +kernel) (by decide +kernel) (by decide +kernel) (by decide +kernel) (by decide +kernel) k1 k2 w
        | false =>
          rw [show noB a b = false by simp [noB, k1, k2]]
          cases tL : lessB b a with
          | false => exact rt_le_f _ a b hva hvb (ordy_b n1 k1) (ordy_b n2 k2) hkn n1 n2 (by decide +kernel) (by decide +kernel) (by decide +kernel) (by decide +kernel) (by decide +kernel) (by decide +kernel) k1 k2 tL w
          | true => exact rt_le_t _ a b hva hvb (ordy_b n1 k1) (ordy_b n2 k2) hkn n1 n2 (by decide +kernel) (by decide +kernel) (by decide +kernel) (by decide +kernel) (by decide +kernel) (by decide +kernel) k1 k2 tL w
theorem rtwo_gt (a b : Vl) (hva : IsV a) (hvb : IsV b) (w : World) : Calls Tryz.prog 51 #[.string ⟨#[62]⟩, vlV a, vlV b] w fun e w' => TwoR (gtV a b) w e w' := by
  have hkn : kn ⟨#[62]⟩ 12 = true := by decide +kernel
  unfold TwoR gtV
  cases n1 : (a.kind == 2) with
  | true => rw [nulls_1 n1]; exact rt_null1 _ a b hkn n1 w
  | false =>
    cases n2 : (b.kind == 2) with
    | true => rw [nulls_2 n2]; exact rt_null2 _ a b hkn n1 n2 w
    | false =>
      rw [nulls_0 n1 n2]
      cases k1 : (a.kind == 3) with
      | true => rw [show noB a b = true by simp [noB, k1]]; exact rt_gt_n1 _ a b hkn n1 n2 (by decide +kernel) (by decide +kernel) (by decide +kernel) (by decide +kernel) (by decide +kernel) (by decide +kernel) (by decide +kernel) k1 w
      | false =>
        cases k2 : (b.kind == 3) with
        | true => rw [show noB a b = true by simp [noB, k2]]; exact rt_gt_n2 _ a b hkn n1 n2 (by decide +kernel) (by decide +kernel) (by decide +kernel) (by decide +kernel) (by decide +kernel) (by decide +kernel) (by decide +kernel) k1 k2 w
        | false =>
          rw [show noB a b = false by simp [noB, k1, k2]]
          cases tL : lessB b a with
          | false => exact rt_gt_f _ a b hva hvb (ordy_b n1 k1) (ordy_b n2 k2) hkn n1 n2 (by decide +kernel) (by decide +kernel) (by decide +kernel) (by decide +kernel) (by decide +kernel) (by decide +kernel) (by decide +kernel) k1 k2 tL w
          | true => exact rt_gt_t _ a b hva hvb (ordy_b n1 k1) (ordy_b n2 k2) hkn n1 n2 (by decide +kernel) (by decide +kernel) (by decide +kernel) (by decide +kernel) (by decide +kernel) (by decide +kernel) (by decide +kernel) k1 k2 tL w
theorem rtwo_ge (a b : Vl) (hva : IsV a) (hvb : IsV b) (w : World) : Calls Tryz.prog 51 #[.string ⟨#[62, 61]⟩, vlV a, vlV b] w fun e w' => TwoR (geV a b) w e w' := by
  have hkn : kn ⟨#[62, 61]⟩ 12 = true := by decide +kernel
  unfold TwoR geV
  cases n1 : (a.kind == 2) with
  | true => rw [nulls_1 n1]; exact rt_null1 _ a b hkn n1 w
  | false =>
    cases n2 : (b.kind == 2) with
    | true => rw [nulls_2 n2]; exact rt_null2 _ a b hkn n1 n2 w
    | false =>
      rw [nulls_0 n1 n2]
      cases k1 : (a.kind == 3) with
      | true => rw [show noB a b = true by simp [noB, k1]]; exact rt_ge_n1 _ a b hkn n1 n2 (by decide +kernel) (by decide +kernel) (by decide +kernel) (by decide +kernel) (by decide +kernel) (by decide +kernel) (by decide +kernel) (by decide +kernel) k1 w
      | false =>
        cases k2 : (b.kind == 3) with
        | true => rw [show noB a b = true by simp [noB, k2]]; exact rt_ge_n2 _ a b hkn n1 n2 (by decide +kernel) (by decide +kernel) (by decide +kernel) (by decide +kernel) (by decide +kernel) (by decide +kernel) (by decide +kernel) (by decide +kernel) k1 k2 w
        | false =>
          rw [show noB a b = false by simp [noB, k1, k2]]
          cases tL : lessB a b with
          | false => exact rt_ge_f _ a b hva hvb (ordy_b n1 k1) (ordy_b n2 k2) hkn n1 n2 (by decide +kernel) (by decide +kernel) (by decide +kernel) (by decide +kernel) (by decide +kernel) (by decide +kernel) (by decide +kernel) (by decide +kernel) k1 k2 tL w
          | true => exact rt_ge_t _ a b hva hvb (ordy_b n1 k1) (ordy_b n2 k2) hkn n1 n2 (by decide +kernel) (by decide +kernel) (by decide +kernel) (by decide +kernel) (by decide +kernel) (by decide +kernel) (by decide +kernel) (by decide +kernel) k1 k2 tL w
theorem rtwo_and (a b : Vl) (hva : IsV a) (hvb : IsV b) (w : World) : Calls Tryz.prog 51 #[.string ⟨#[38, 38]⟩, vlV a, vlV b] w fun e w' => TwoR (andV a b) w e w' := by
  have hkn : kn ⟨#[38, 38]⟩ 12 = true := by decide +kernel
  unfold TwoR andV
  cases n1 : (a.kind == 2) with
  | true => rw [nulls_1 n1]; exact rt_null1 _ a b hkn n1 w
  | false =>
    cases n2 : (b.kind == 2) with
    | true => rw [nulls_2 n2]; exact rt_null2 _ a b hkn n1 n2 w
    | false =>
      rw [nulls_0 n1 n2]
      cases tA : truB a <;> cases tB : truB b
      · exact rt_and_ff _ a b hkn n1 n2 (by decide +kernel) tA tB w
      · exact rt_and_ft _ a b hkn n1 n2 (by decide +kernel) tA tB w
      · exact rt_and_tf _ a b hkn n1 n2 (by decide +kernel) tA tB w
      · exact rt_and_tt _ a b hkn n1 n2 (by decide +kernel) tA tB w
theorem rtwo_or (a b : Vl) (hva : IsV a) (hvb : IsV b) (w : World) : Calls Tryz.prog 51 #[.string ⟨#[124, 124]⟩, vlV a, vlV b] w fun e w' => TwoR (orV a b) w e w' := by
  have hkn : kn ⟨#[124, 124]⟩ 12 = true := by decide +kernel
  unfold TwoR orV
  cases n1 : (a.kind == 2) with
  | true => rw [nulls_1 n1]; exact rt_null1 _ a b hkn n1 w
  | false =>
    cases n2 : (b.kind == 2) with
    | true => rw [nulls_2 n2]; exact rt_null2 _ a b hkn n1 n2 w
    | false =>
      rw [nulls_0 n1 n2]
      cases tA : truB a <;> cases tB : truB b
      · exact rt_or_ff _ a b hkn n1 n2 (by decide +kernel) (by decide +kernel) tA tB w
      · exact rt_or_ft _ a b hkn n1 n2 (by decide +kernel) (by decide +kernel) tA tB w
      · exact rt_or_tf _ a b hkn n1 n2 (by decide +kernel) (by decide +kernel) tA tB w
      · exact rt_or_tt _ a b hkn n1 n2 (by decide +kernel) (by decide +kernel) tA tB w
/-- The document's two. -/
theorem rtwo_any (op : ByteArray) (a b : Vl) (hva : IsV a) (hvb : IsV b) (w : World) : Calls Tryz.prog 51 #[.string op, vlV a, vlV b] w fun e w' => e = .returned (.tuple #[vlV ((two op a b).getD zer), .bool (two op a b).isSome]) ∧ Below w.heap.size w w' := by
  by_cases h_plus : op = ⟨#[43]⟩
  · subst h_plus; rw [two_add]; exact rtwo_plus a b hva hvb w
  by_cases h_minus : op = ⟨#[45]⟩
  · subst h_minus; rw [two_sub]; exact rtwo_minus a b hva hvb w
  by_cases h_star : op = ⟨#[42]⟩
  · subst h_star; rw [two_mul]; exact rtwo_star a b hva hvb w
  by_cases h_slash : op = ⟨#[47]⟩
  · subst h_slash; rw [two_div]; exact rtwo_slash a b hva hvb w
  by_cases h_eq : op = ⟨#[61, 61]⟩
  · subst h_eq; rw [two_eq]; exact rtwo_eq a b hva hvb w
  by_cases h_ne : op = ⟨#[33, 61]⟩
  · subst h_ne; rw [two_ne]; exact rtwo_ne a b hva hvb w
  by_cases h_lt : op = ⟨#[60]⟩
  · subst h_lt; rw [two_lt]; exact rtwo_lt a b hva hvb w
  by_cases h_le : op = ⟨#[60, 61]⟩
  · subst h_le; rw [two_le]; exact rtwo_le a b hva hvb w
  by_cases h_gt : op = ⟨#[62]⟩
  · subst h_gt; rw [two_gt]; exact rtwo_gt a b hva hvb w
  by_cases h_ge : op = ⟨#[62, 61]⟩
  · subst h_ge; rw [two_ge]; exact rtwo_ge a b hva hvb w
  by_cases h_and : op = ⟨#[38, 38]⟩
  · subst h_and; rw [two_and]; exact rtwo_and a b hva hvb w
  by_cases h_or : op = ⟨#[124, 124]⟩
  · subst h_or; rw [two_or]; exact rtwo_or a b hva hvb w
  have h2 : two op a b = none := by unfold two; rw [if_neg h_plus, if_neg h_minus, if_neg h_star, if_neg h_slash, if_neg h_eq, if_neg h_ne, if_neg h_lt, if_neg h_le, if_neg h_gt, if_neg h_ge, if_neg h_and, if_neg h_or]
  have hne : ∀ s, op ≠ s → (s.toList == op.toList) = false := fun s h => by
    cases hh : (s.toList == op.toList) with
    | false => rfl
    | true => exact absurd (toList_eq (by rw [beq_iff_eq] at hh ⊢; exact hh.symm)) h
  have hkn : kn op 12 = false := by
    unfold kn two12
    simp only [List.take_succ_cons, List.take_zero, List.any_cons, List.any_nil, hne _ h_plus, hne _ h_minus, hne _ h_star, hne _ h_slash, hne _ h_eq, hne _ h_ne, hne _ h_lt, hne _ h_le, hne _ h_gt, hne _ h_ge, hne _ h_and, hne _ h_or, Bool.or_self]
  rw [h2]
  exact rt_none op a b hkn w
end Go.Proofs.YtejdmielhaldaaaGreat
