import Derived.Test.YtdhlfpgibfaimaaGreatDoorWl
import Derived.Test.YtdhlfpgibfaimaaGreatDoorWn
import Derived.Test.YtdhlfpgibfaimaaGreatDoorVa2SgSi
set_option maxRecDepth 100000
set_option maxHeartbeats 8000000
set_option linter.unusedVariables false
namespace Go.Proofs.YtdhlfpgibfaimaaGreatDoor
open Go.RowKit
theorem nulls_1 {a b v:Vl} (h:(a.kind == 2) = true):nulls a b v = nul:=by unfold nulls;rw [if_pos (.inl (by simpa using h))]
theorem nulls_2 {a b v:Vl} (h:(b.kind == 2) = true):nulls a b v = nul:=by unfold nulls;rw [if_pos (.inr (by simpa using h))]
theorem nulls_0 {a b v:Vl} (h:(a.kind == 2) = false) (g:(b.kind == 2) = false):nulls a b v = v:=by unfold nulls;rw [if_neg (by rintro (e | e) <;> simp [e] at h g)]
theorem nans_1 {a b v:Vl} (h:(a.kind == 2) = false) (g:(b.kind == 2) = false) (k:(a.kind == 3) = true):nans a b v = nan:=by unfold nans;rw [nulls_0 h g,if_pos (.inl (by simpa using k))]
theorem nans_2 {a b v:Vl} (h:(a.kind == 2) = false) (g:(b.kind == 2) = false) (k:(b.kind == 3) = true):nans a b v = nan:=by unfold nans;rw [nulls_0 h g,if_pos (.inr (by simpa using k))]
theorem nans_0 {a b v:Vl} (h:(a.kind == 2) = false) (g:(b.kind == 2) = false) (k:(a.kind == 3) = false) (m:(b.kind == 3) = false):nans a b v = v:=by unfold nans;rw [nulls_0 h g,if_neg (by rintro (e | e) <;> simp [e] at k m)]
theorem ordy_b {a:Vl} (h:(a.kind == 2) = false) (k:(a.kind == 3) = false):Ordy a:=⟨by simpa using h,by simpa using k⟩
theorem eq_b {a b:Vl}:decide (a = b) = ((a.kind == b.kind) && (a.n == b.n)):=by
 cases a;cases b
 simp only [Vl.mk.injEq,Bool.decide_and]
 rfl
def TwoR (v:Vl) (w:World) (e:Ending) (w':World):Prop:=e = .returned (.tuple #[vlV v,.bool true])∧Below w.heap.size w w'
theorem rtwo_plus (a b:Vl) (hva:IsV a) (hvb:IsV b) (w:World):Calls Tryz.prog 81 #[.string ⟨#[43]⟩,vlV a,vlV b] w fun e w'=>TwoR (addV a b) w e w':=by
 have hkn:kn ⟨#[43]⟩ 12 = true:=by decide +kernel
 unfold TwoR addV
 cases n1:(a.kind == 2) with
 | true=>rw [nans,nulls_1 n1];exact rt_null1 _ a b hkn n1 w
 | false =>
  cases n2:(b.kind == 2) with
  | true=>rw [nans,nulls_2 n2];exact rt_null2 _ a b hkn n1 n2 w
  | false =>
   cases k1:(a.kind == 3) with
   | true=>rw [nans_1 n1 n2 k1];exact rt_nan1 _ a b hkn n1 n2 (by decide +kernel) (by decide +kernel) (by decide +kernel) (by decide +kernel) (by decide +kernel) (by decide +kernel) (by decide +kernel) (by decide +kernel) k1 w
   | false =>
    cases k2:(b.kind == 3) with
    | true=>rw [nans_2 n1 n2 k2];exact rt_nan2 _ a b hkn n1 n2 (by decide +kernel) (by decide +kernel) (by decide +kernel) (by decide +kernel) (by decide +kernel) (by decide +kernel) (by decide +kernel) (by decide +kernel) k1 k2 w
    | false=>rw [nans_0 n1 n2 k1 k2];exact rt_plus _ a b hva hvb (ordy_b n1 k1) (ordy_b n2 k2) hkn n1 n2 (by decide +kernel) (by decide +kernel) (by decide +kernel) (by decide +kernel) (by decide +kernel) (by decide +kernel) (by decide +kernel) (by decide +kernel) k1 k2 (by decide +kernel) w
theorem rtwo_minus (a b:Vl) (hva:IsV a) (hvb:IsV b) (w:World):Calls Tryz.prog 81 #[.string ⟨#[45]⟩,vlV a,vlV b] w fun e w'=>TwoR (subV a b) w e w':=by
 have hkn:kn ⟨#[45]⟩ 12 = true:=by decide +kernel
 unfold TwoR subV
 cases n1:(a.kind == 2) with
 | true=>rw [nans,nulls_1 n1];exact rt_null1 _ a b hkn n1 w
 | false =>
  cases n2:(b.kind == 2) with
  | true=>rw [nans,nulls_2 n2];exact rt_null2 _ a b hkn n1 n2 w
  | false =>
   cases k1:(a.kind == 3) with
   | true=>rw [nans_1 n1 n2 k1];exact rt_nan1 _ a b hkn n1 n2 (by decide +kernel) (by decide +kernel) (by decide +kernel) (by decide +kernel) (by decide +kernel) (by decide +kernel) (by decide +kernel) (by decide +kernel) k1 w
   | false =>
    cases k2:(b.kind == 3) with
    | true=>rw [nans_2 n1 n2 k2];exact rt_nan2 _ a b hkn n1 n2 (by decide +kernel) (by decide +kernel) (by decide +kernel) (by decide +kernel) (by decide +kernel) (by decide +kernel) (by decide +kernel) (by decide +kernel) k1 k2 w
    | false=>rw [nans_0 n1 n2 k1 k2];exact rt_minus _ a b hva hvb (ordy_b n1 k1) (ordy_b n2 k2) hkn n1 n2 (by decide +kernel) (by decide +kernel) (by decide +kernel) (by decide +kernel) (by decide +kernel) (by decide +kernel) (by decide +kernel) (by decide +kernel) k1 k2 (by decide +kernel) (by decide +kernel) w
theorem rtwo_star (a b:Vl) (hva:IsV a) (hvb:IsV b) (w:World):Calls Tryz.prog 81 #[.string ⟨#[42]⟩,vlV a,vlV b] w fun e w'=>TwoR (mulV a b) w e w':=by
 have hkn:kn ⟨#[42]⟩ 12 = true:=by decide +kernel
 unfold TwoR mulV
 cases n1:(a.kind == 2) with
 | true=>rw [nans,nulls_1 n1];exact rt_null1 _ a b hkn n1 w
 | false =>
  cases n2:(b.kind == 2) with
  | true=>rw [nans,nulls_2 n2];exact rt_null2 _ a b hkn n1 n2 w
  | false =>
   cases k1:(a.kind == 3) with
   | true=>rw [nans_1 n1 n2 k1];exact rt_nan1 _ a b hkn n1 n2 (by decide +kernel) (by decide +kernel) (by decide +kernel) (by decide +kernel) (by decide +kernel) (by decide +kernel) (by decide +kernel) (by decide +kernel) k1 w
   | false =>
    cases k2:(b.kind == 3) with
    | true=>rw [nans_2 n1 n2 k2];exact rt_nan2 _ a b hkn n1 n2 (by decide +kernel) (by decide +kernel) (by decide +kernel) (by decide +kernel) (by decide +kernel) (by decide +kernel) (by decide +kernel) (by decide +kernel) k1 k2 w
    | false=>rw [nans_0 n1 n2 k1 k2];exact rt_star _ a b hva hvb (ordy_b n1 k1) (ordy_b n2 k2) hkn n1 n2 (by decide +kernel) (by decide +kernel) (by decide +kernel) (by decide +kernel) (by decide +kernel) (by decide +kernel) (by decide +kernel) (by decide +kernel) k1 k2 (by decide +kernel) (by decide +kernel) (by decide +kernel) w
theorem rtwo_slash (a b:Vl) (hva:IsV a) (hvb:IsV b) (w:World):Calls Tryz.prog 81 #[.string ⟨#[47]⟩,vlV a,vlV b] w fun e w'=>TwoR (divV a b) w e w':=by
 have hkn:kn ⟨#[47]⟩ 12 = true:=by decide +kernel
 unfold TwoR divV
 cases n1:(a.kind == 2) with
 | true=>rw [nans,nulls_1 n1];exact rt_null1 _ a b hkn n1 w
 | false =>
  cases n2:(b.kind == 2) with
  | true=>rw [nans,nulls_2 n2];exact rt_null2 _ a b hkn n1 n2 w
  | false =>
   cases k1:(a.kind == 3) with
   | true=>rw [nans_1 n1 n2 k1];exact rt_nan1 _ a b hkn n1 n2 (by decide +kernel) (by decide +kernel) (by decide +kernel) (by decide +kernel) (by decide +kernel) (by decide +kernel) (by decide +kernel) (by decide +kernel) k1 w
   | false =>
    cases k2:(b.kind == 3) with
    | true=>rw [nans_2 n1 n2 k2];exact rt_nan2 _ a b hkn n1 n2 (by decide +kernel) (by decide +kernel) (by decide +kernel) (by decide +kernel) (by decide +kernel) (by decide +kernel) (by decide +kernel) (by decide +kernel) k1 k2 w
    | false=>rw [nans_0 n1 n2 k1 k2];exact rt_slash _ a b hva hvb (ordy_b n1 k1) (ordy_b n2 k2) hkn n1 n2 (by decide +kernel) (by decide +kernel) (by decide +kernel) (by decide +kernel) (by decide +kernel) (by decide +kernel) (by decide +kernel) (by decide +kernel) k1 k2 (by decide +kernel) (by decide +kernel) (by decide +kernel) w
theorem rtwo_eq (a b:Vl) (hva:IsV a) (hvb:IsV b) (w:World):Calls Tryz.prog 81 #[.string ⟨#[61,61]⟩,vlV a,vlV b] w fun e w'=>TwoR (eqV a b) w e w':=by
 have hkn:kn ⟨#[61,61]⟩ 12 = true:=by decide +kernel
 unfold TwoR eqV
 cases n1:(a.kind == 2) with
 | true=>rw [nulls_1 n1];exact rt_null1 _ a b hkn n1 w
 | false =>
  cases n2:(b.kind == 2) with
  | true=>rw [nulls_2 n2];exact rt_null2 _ a b hkn n1 n2 w
  | false =>
   rw [nulls_0 n1 n2]
   cases k1:(a.kind == 3) with
   | true=>rw [show noB a b = true by simp [noB,k1]];exact rt_eq_n1 _ a b hkn n1 n2 (by decide +kernel) (by decide +kernel) (by decide +kernel) k1 w
   | false =>
    cases k2:(b.kind == 3) with
    | true=>rw [show noB a b = true by simp [noB,k2]];exact rt_eq_n2 _ a b hkn n1 n2 (by decide +kernel) (by decide +kernel) (by decide +kernel) k1 k2 w
    | false =>
     rw [show noB a b = false by simp [noB,k1,k2]]
     rw [eq_b]
     cases q1:(a.kind == b.kind) with
     | false=>exact rt_eq_2 _ a b hkn n1 n2 (by decide +kernel) (by decide +kernel) (by decide +kernel) k1 k2 q1 w
     | true =>
      cases q2:(a.n == b.n) with
      | false=>exact rt_eq_1 _ a b hkn n1 n2 (by decide +kernel) (by decide +kernel) (by decide +kernel) k1 k2 q1 q2 w
      | true=>exact rt_eq_0 _ a b hkn n1 n2 (by decide +kernel) (by decide +kernel) (by decide +kernel) k1 k2 q1 q2 w
theorem rtwo_ne (a b:Vl) (hva:IsV a) (hvb:IsV b) (w:World):Calls Tryz.prog 81 #[.string ⟨#[33,61]⟩,vlV a,vlV b] w fun e w'=>TwoR (neV a b) w e w':=by
 have hkn:kn ⟨#[33,61]⟩ 12 = true:=by decide +kernel
 unfold TwoR neV
 cases n1:(a.kind == 2) with
 | true=>rw [nulls_1 n1];exact rt_null1 _ a b hkn n1 w
 | false =>
  cases n2:(b.kind == 2) with
  | true=>rw [nulls_2 n2];exact rt_null2 _ a b hkn n1 n2 w
  | false =>
   rw [nulls_0 n1 n2]
   cases k1:(a.kind == 3) with
   | true=>rw [show noB a b = true by simp [noB,k1]];exact rt_ne_n1 _ a b hkn n1 n2 (by decide +kernel) (by decide +kernel) (by decide +kernel) (by decide +kernel) k1 w
   | false =>
    cases k2:(b.kind == 3) with
    | true=>rw [show noB a b = true by simp [noB,k2]];exact rt_ne_n2 _ a b hkn n1 n2 (by decide +kernel) (by decide +kernel) (by decide +kernel) (by decide +kernel) k1 k2 w
    | false =>
     rw [show noB a b = false by simp [noB,k1,k2]]
     rw [show decide (a ≠ b) = !((a.kind == b.kind) && (a.n == b.n)) by rw [← eq_b];exact decide_not]
     cases q1:(a.kind == b.kind) with
     | false=>exact rt_ne_2 _ a b hkn n1 n2 (by decide +kernel) (by decide +kernel) (by decide +kernel) (by decide +kernel) k1 k2 q1 w
     | true =>
      cases q2:(a.n == b.n) with
      | false=>exact rt_ne_1 _ a b hkn n1 n2 (by decide +kernel) (by decide +kernel) (by decide +kernel) (by decide +kernel) k1 k2 q1 q2 w
      | true=>exact rt_ne_0 _ a b hkn n1 n2 (by decide +kernel) (by decide +kernel) (by decide +kernel) (by decide +kernel) k1 k2 q1 q2 w
theorem rtwo_lt (a b:Vl) (hva:IsV a) (hvb:IsV b) (w:World):Calls Tryz.prog 81 #[.string ⟨#[60]⟩,vlV a,vlV b] w fun e w'=>TwoR (ltV a b) w e w':=by
 have hkn:kn ⟨#[60]⟩ 12 = true:=by decide +kernel
 unfold TwoR ltV
 cases n1:(a.kind == 2) with
 | true=>rw [nulls_1 n1];exact rt_null1 _ a b hkn n1 w
 | false =>
  cases n2:(b.kind == 2) with
  | true=>rw [nulls_2 n2];exact rt_null2 _ a b hkn n1 n2 w
  | false =>
   rw [nulls_0 n1 n2]
   cases k1:(a.kind == 3) with
   | true=>rw [show noB a b = true by simp [noB,k1]];exact rt_lt_n1 _ a b hkn n1 n2 (by decide +kernel) (by decide +kernel) (by decide +kernel) (by decide +kernel) (by decide +kernel) k1 w
   | false =>
    cases k2:(b.kind == 3) with
    | true=>rw [show noB a b = true by simp [noB,k2]];exact rt_lt_n2 _ a b hkn n1 n2 (by decide +kernel) (by decide +kernel) (by decide +kernel) (by decide +kernel) (by decide +kernel) k1 k2 w
    | false =>
     rw [show noB a b = false by simp [noB,k1,k2]]
     cases tL:lessB a b with
     | false=>exact rt_lt_f _ a b hva hvb (ordy_b n1 k1) (ordy_b n2 k2) hkn n1 n2 (by decide +kernel) (by decide +kernel) (by decide +kernel) (by decide +kernel) (by decide +kernel) k1 k2 tL w
     | true=>exact rt_lt_t _ a b hva hvb (ordy_b n1 k1) (ordy_b n2 k2) hkn n1 n2 (by decide +kernel) (by decide +kernel) (by decide +kernel) (by decide +kernel) (by decide +kernel) k1 k2 tL w
theorem rtwo_le (a b:Vl) (hva:IsV a) (hvb:IsV b) (w:World):Calls Tryz.prog 81 #[.string ⟨#[60,61]⟩,vlV a,vlV b] w fun e w'=>TwoR (leV a b) w e w':=by
 have hkn:kn ⟨#[60,61]⟩ 12 = true:=by decide +kernel
 unfold TwoR leV
 cases n1:(a.kind == 2) with
 | true=>rw [nulls_1 n1];exact rt_null1 _ a b hkn n1 w
 | false =>
  cases n2:(b.kind == 2) with
  | true=>rw [nulls_2 n2];exact rt_null2 _ a b hkn n1 n2 w
  | false =>
   rw [nulls_0 n1 n2]
   cases k1:(a.kind == 3) with
   | true=>rw [show noB a b = true by simp [noB,k1]];exact rt_le_n1 _ a b hkn n1 n2 (by decide +kernel) (by decide +kernel) (by decide +kernel) (by decide +kernel) (by decide +kernel) (by decide +kernel) k1 w
   | false =>
    cases k2:(b.kind == 3) with
    | true=>rw [show noB a b = true by simp [noB,k2]];exact rt_le_n2 _ a b hkn n1 n2 (by decide +kernel) (by decide +kernel) (by decide +kernel) (by decide +kernel) (by decide +kernel) (by decide +kernel) k1 k2 w
    | false =>
     rw [show noB a b = false by simp [noB,k1,k2]]
     cases tL:lessB b a with
     | false=>exact rt_le_f _ a b hva hvb (ordy_b n1 k1) (ordy_b n2 k2) hkn n1 n2 (by decide +kernel) (by decide +kernel) (by decide +kernel) (by decide +kernel) (by decide +kernel) (by decide +kernel) k1 k2 tL w
     | true=>exact rt_le_t _ a b hva hvb (ordy_b n1 k1) (ordy_b n2 k2) hkn n1 n2 (by decide +kernel) (by decide +kernel) (by decide +kernel) (by decide +kernel) (by decide +kernel) (by decide +kernel) k1 k2 tL w
theorem rtwo_gt (a b:Vl) (hva:IsV a) (hvb:IsV b) (w:World):Calls Tryz.prog 81 #[.string ⟨#[62]⟩,vlV a,vlV b] w fun e w'=>TwoR (gtV a b) w e w':=by
 have hkn:kn ⟨#[62]⟩ 12 = true:=by decide +kernel
 unfold TwoR gtV
 cases n1:(a.kind == 2) with
 | true=>rw [nulls_1 n1];exact rt_null1 _ a b hkn n1 w
 | false =>
  cases n2:(b.kind == 2) with
  | true=>rw [nulls_2 n2];exact rt_null2 _ a b hkn n1 n2 w
  | false =>
   rw [nulls_0 n1 n2]
   cases k1:(a.kind == 3) with
   | true=>rw [show noB a b = true by simp [noB,k1]];exact rt_gt_n1 _ a b hkn n1 n2 (by decide +kernel) (by decide +kernel) (by decide +kernel) (by decide +kernel) (by decide +kernel) (by decide +kernel) (by decide +kernel) k1 w
   | false =>
    cases k2:(b.kind == 3) with
    | true=>rw [show noB a b = true by simp [noB,k2]];exact rt_gt_n2 _ a b hkn n1 n2 (by decide +kernel) (by decide +kernel) (by decide +kernel) (by decide +kernel) (by decide +kernel) (by decide +kernel) (by decide +kernel) k1 k2 w
    | false =>
     rw [show noB a b = false by simp [noB,k1,k2]]
     cases tL:lessB b a with
     | false=>exact rt_gt_f _ a b hva hvb (ordy_b n1 k1) (ordy_b n2 k2) hkn n1 n2 (by decide +kernel) (by decide +kernel) (by decide +kernel) (by decide +kernel) (by decide +kernel) (by decide +kernel) (by decide +kernel) k1 k2 tL w
     | true=>exact rt_gt_t _ a b hva hvb (ordy_b n1 k1) (ordy_b n2 k2) hkn n1 n2 (by decide +kernel) (by decide +kernel) (by decide +kernel) (by decide +kernel) (by decide +kernel) (by decide +kernel) (by decide +kernel) k1 k2 tL w
theorem rtwo_ge (a b:Vl) (hva:IsV a) (hvb:IsV b) (w:World):Calls Tryz.prog 81 #[.string ⟨#[62,61]⟩,vlV a,vlV b] w fun e w'=>TwoR (geV a b) w e w':=by
 have hkn:kn ⟨#[62,61]⟩ 12 = true:=by decide +kernel
 unfold TwoR geV
 cases n1:(a.kind == 2) with
 | true=>rw [nulls_1 n1];exact rt_null1 _ a b hkn n1 w
 | false =>
  cases n2:(b.kind == 2) with
  | true=>rw [nulls_2 n2];exact rt_null2 _ a b hkn n1 n2 w
  | false =>
   rw [nulls_0 n1 n2]
   cases k1:(a.kind == 3) with
   | true=>rw [show noB a b = true by simp [noB,k1]];exact rt_ge_n1 _ a b hkn n1 n2 (by decide +kernel) (by decide +kernel) (by decide +kernel) (by decide +kernel) (by decide +kernel) (by decide +kernel) (by decide +kernel) (by decide +kernel) k1 w
   | false =>
    cases k2:(b.kind == 3) with
    | true=>rw [show noB a b = true by simp [noB,k2]];exact rt_ge_n2 _ a b hkn n1 n2 (by decide +kernel) (by decide +kernel) (by decide +kernel) (by decide +kernel) (by decide +kernel) (by decide +kernel) (by decide +kernel) (by decide +kernel) k1 k2 w
    | false =>
     rw [show noB a b = false by simp [noB,k1,k2]]
     cases tL:lessB a b with
     | false=>exact rt_ge_f _ a b hva hvb (ordy_b n1 k1) (ordy_b n2 k2) hkn n1 n2 (by decide +kernel) (by decide +kernel) (by decide +kernel) (by decide +kernel) (by decide +kernel) (by decide +kernel) (by decide +kernel) (by decide +kernel) k1 k2 tL w
     | true=>exact rt_ge_t _ a b hva hvb (ordy_b n1 k1) (ordy_b n2 k2) hkn n1 n2 (by decide +kernel) (by decide +kernel) (by decide +kernel) (by decide +kernel) (by decide +kernel) (by decide +kernel) (by decide +kernel) (by decide +kernel) k1 k2 tL w
theorem rtwo_and (a b:Vl) (hva:IsV a) (hvb:IsV b) (w:World):Calls Tryz.prog 81 #[.string ⟨#[38,38]⟩,vlV a,vlV b] w fun e w'=>TwoR (andV a b) w e w':=by
 have hkn:kn ⟨#[38,38]⟩ 12 = true:=by decide +kernel
 unfold TwoR andV
 cases n1:(a.kind == 2) with
 | true=>rw [nulls_1 n1];exact rt_null1 _ a b hkn n1 w
 | false =>
  cases n2:(b.kind == 2) with
  | true=>rw [nulls_2 n2];exact rt_null2 _ a b hkn n1 n2 w
  | false =>
   rw [nulls_0 n1 n2]
   cases tA:truB a <;> cases tB:truB b
   · exact rt_and_ff _ a b hkn n1 n2 (by decide +kernel) tA tB w
   · exact rt_and_ft _ a b hkn n1 n2 (by decide +kernel) tA tB w
   · exact rt_and_tf _ a b hkn n1 n2 (by decide +kernel) tA tB w
   · exact rt_and_tt _ a b hkn n1 n2 (by decide +kernel) tA tB w
theorem rtwo_or (a b:Vl) (hva:IsV a) (hvb:IsV b) (w:World):Calls Tryz.prog 81 #[.string ⟨#[124,124]⟩,vlV a,vlV b] w fun e w'=>TwoR (orV a b) w e w':=by
 have hkn:kn ⟨#[124,124]⟩ 12 = true:=by decide +kernel
 unfold TwoR orV
 cases n1:(a.kind == 2) with
 | true=>rw [nulls_1 n1];exact rt_null1 _ a b hkn n1 w
 | false =>
  cases n2:(b.kind == 2) with
  | true=>rw [nulls_2 n2];exact rt_null2 _ a b hkn n1 n2 w
  | false =>
   rw [nulls_0 n1 n2]
   cases tA:truB a <;> cases tB:truB b
   · exact rt_or_ff _ a b hkn n1 n2 (by decide +kernel) (by decide +kernel) tA tB w
   · exact rt_or_ft _ a b hkn n1 n2 (by decide +kernel) (by decide +kernel) tA tB w
   · exact rt_or_tf _ a b hkn n1 n2 (by decide +kernel) (by decide +kernel) tA tB w
   · exact rt_or_tt _ a b hkn n1 n2 (by decide +kernel) (by decide +kernel) tA tB w
theorem rtwo_any (op:ByteArray) (a b:Vl) (hva:IsV a) (hvb:IsV b) (w:World):Calls Tryz.prog 81 #[.string op,vlV a,vlV b] w fun e w'=>e = .returned (.tuple #[vlV ((two op a b).getD zer),.bool (two op a b).isSome])∧Below w.heap.size w w':=by
 by_cases h_plus:op = ⟨#[43]⟩
 · subst h_plus;rw [two_add];exact rtwo_plus a b hva hvb w
 by_cases h_minus:op = ⟨#[45]⟩
 · subst h_minus;rw [two_sub];exact rtwo_minus a b hva hvb w
 by_cases h_star:op = ⟨#[42]⟩
 · subst h_star;rw [two_mul];exact rtwo_star a b hva hvb w
 by_cases h_slash:op = ⟨#[47]⟩
 · subst h_slash;rw [two_div];exact rtwo_slash a b hva hvb w
 by_cases h_eq:op = ⟨#[61,61]⟩
 · subst h_eq;rw [two_eq];exact rtwo_eq a b hva hvb w
 by_cases h_ne:op = ⟨#[33,61]⟩
 · subst h_ne;rw [two_ne];exact rtwo_ne a b hva hvb w
 by_cases h_lt:op = ⟨#[60]⟩
 · subst h_lt;rw [two_lt];exact rtwo_lt a b hva hvb w
 by_cases h_le:op = ⟨#[60,61]⟩
 · subst h_le;rw [two_le];exact rtwo_le a b hva hvb w
 by_cases h_gt:op = ⟨#[62]⟩
 · subst h_gt;rw [two_gt];exact rtwo_gt a b hva hvb w
 by_cases h_ge:op = ⟨#[62,61]⟩
 · subst h_ge;rw [two_ge];exact rtwo_ge a b hva hvb w
 by_cases h_and:op = ⟨#[38,38]⟩
 · subst h_and;rw [two_and];exact rtwo_and a b hva hvb w
 by_cases h_or:op = ⟨#[124,124]⟩
 · subst h_or;rw [two_or];exact rtwo_or a b hva hvb w
 have h2:two op a b = none:=by unfold two;rw [if_neg h_plus,if_neg h_minus,if_neg h_star,if_neg h_slash,if_neg h_eq,if_neg h_ne,if_neg h_lt,if_neg h_le,if_neg h_gt,if_neg h_ge,if_neg h_and,if_neg h_or]
 have hne:∀ s,op ≠ s→(s.toList == op.toList) = false:=fun s h=>by
  cases hh:(s.toList == op.toList) with
  | false=>rfl
  | true=>exact absurd (toList_eq (by rw [beq_iff_eq] at hh ⊢;exact hh.symm)) h
 have hkn:kn op 12 = false:=by
  unfold kn two12
  simp only [List.take_succ_cons,List.take_zero,List.any_cons,List.any_nil,hne _ h_plus,hne _ h_minus,hne _ h_star,hne _ h_slash,hne _ h_eq,hne _ h_ne,hne _ h_lt,hne _ h_le,hne _ h_gt,hne _ h_ge,hne _ h_and,hne _ h_or,Bool.or_self]
 rw [h2]
 exact rt_none op a b hkn w
end Go.Proofs.YtdhlfpgibfaimaaGreatDoor
namespace Go.Proofs.YtdhlfpgibfaimaaGreatDoor
open Go.RowKit
attribute [local go_sem ↓] Go.wp_at_zero Go.wp_at_succ
theorem end_one {tmps:Array Value} {w W0 W:World} {x:Nat} {v u:Vl} {r:Value} (ht:tmps[4]?.getD undef = .pointer (some ⟨x,0,none⟩)) (hs:tmps[5]?.getD undef = r) (hx:w.heap.size ≤ x)
 (h0:Below w.heap.size w W0) (hB:Below W0.heap.size W0 W) (hv:VlAt W0 x u) :
 bodyPost Tryz.prog Tryz.f80 (fun e w'=>e = .returned (.tuple #[vlV v,r])∧Below w.heap.size w w') .ret { tmps:=tmps,defers:=[] } ((W.setCell ⟨x,0,none⟩ (.int .i64 v.kind)).setCell ⟨x,1,none⟩ (.int .i64 v.n)) :=
 ret_cell2 Tryz.results80 ht (vlSet (hv.grow hB)) hs ⟨rfl,belTwo _ _ (h0.trans (hB.mono h0.size)) hx⟩
abbrev wld2 (w:World) (a:Vl):World:=(w.alloc (.cells #[.int .i64 a.kind,.int .i64 a.n] 24)).alloc (.cells #[.int .i64 0,.int .i64 0] 24)
theorem pre1 (w:World) (a:Vl):Hid (Below w.heap.size w (wld2 w a))∧VlAt (wld2 w a) w.heap.size a∧VlAt (wld2 w a) (w.heap.size + 1) zer∧Below (wld2 w a).heap.size (wld2 w a) (wld2 w a):=⟨bW1 w a,(pW1 w a).1,(pW1 w a).2,Below.refl _ _⟩
theorem ro_isnull_t (op:ByteArray) (a:Vl) (e_isnull:(op.toList == [105,115,95,110,117,108,108]) = true) (k1:(a.kind == 2) = true) (w:World):Calls Tryz.prog 80 #[.string op,vlV a] w fun e w'=>e = .returned (.tuple #[vlV (tru true),.bool true])∧Below w.heap.size w w':=by
 obtain ⟨R,hR⟩:∃ R,Hid (R = (tru true)):=⟨_,rfl⟩
 rw [← hR.out]
 obtain ⟨hb0,ha,hr,hB⟩:=pre1 w a
 obtain ⟨a0,a1⟩:=ha.cells
 obtain ⟨r0,r1⟩:=hr.cells
 obtain ⟨rf0,rf1⟩:=hr.frozen
 have hU:=fun W=>truU hR W
 unfold vlV
 go_enter Tryz.func80,Tryz.ntmps80
 go_wp2_with (first
 |(go_at_call 123;(with_reducible refine (hU _).mono ?_);rintro e w5 ⟨rfl,hq⟩;replace hB:=hB.trans (hq.mono hB.size);obtain ⟨a0,a1⟩:=(ha.grow hB).cells;obtain ⟨r0,r1⟩:=(hr.grow hB).cells;obtain ⟨rf0,rf1⟩:=(hr.grow hB).frozen))
 exact end_one (v:=R) rfl rfl (by omega) hb0.out hB hr
theorem ro_isnull_f (op:ByteArray) (a:Vl) (e_isnull:(op.toList == [105,115,95,110,117,108,108]) = true) (k1:(a.kind == 2) = false) (w:World):Calls Tryz.prog 80 #[.string op,vlV a] w fun e w'=>e = .returned (.tuple #[vlV (tru false),.bool true])∧Below w.heap.size w w':=by
 obtain ⟨R,hR⟩:∃ R,Hid (R = (tru false)):=⟨_,rfl⟩
 rw [← hR.out]
 obtain ⟨hb0,ha,hr,hB⟩:=pre1 w a
 obtain ⟨a0,a1⟩:=ha.cells
 obtain ⟨r0,r1⟩:=hr.cells
 obtain ⟨rf0,rf1⟩:=hr.frozen
 have hU:=fun W=>truU hR W
 unfold vlV
 go_enter Tryz.func80,Tryz.ntmps80
 go_wp2_with (first
 |(go_at_call 123;(with_reducible refine (hU _).mono ?_);rintro e w5 ⟨rfl,hq⟩;replace hB:=hB.trans (hq.mono hB.size);obtain ⟨a0,a1⟩:=(ha.grow hB).cells;obtain ⟨r0,r1⟩:=(hr.grow hB).cells;obtain ⟨rf0,rf1⟩:=(hr.grow hB).frozen))
 exact end_one (v:=R) rfl rfl (by omega) hb0.out hB hr
theorem ro_isnan_t (op:ByteArray) (a:Vl) (e_isnull:(op.toList == [105,115,95,110,117,108,108]) = false) (e_isnan:(op.toList == [105,115,95,110,97,110]) = true) (k1:(a.kind == 3) = true) (w:World):Calls Tryz.prog 80 #[.string op,vlV a] w fun e w'=>e = .returned (.tuple #[vlV (tru true),.bool true])∧Below w.heap.size w w':=by
 obtain ⟨R,hR⟩:∃ R,Hid (R = (tru true)):=⟨_,rfl⟩
 rw [← hR.out]
 obtain ⟨hb0,ha,hr,hB⟩:=pre1 w a
 obtain ⟨a0,a1⟩:=ha.cells
 obtain ⟨r0,r1⟩:=hr.cells
 obtain ⟨rf0,rf1⟩:=hr.frozen
 have hU:=fun W=>truU hR W
 unfold vlV
 go_enter Tryz.func80,Tryz.ntmps80
 go_wp2_with (first
 |(go_at_call 123;(with_reducible refine (hU _).mono ?_);rintro e w5 ⟨rfl,hq⟩;replace hB:=hB.trans (hq.mono hB.size);obtain ⟨a0,a1⟩:=(ha.grow hB).cells;obtain ⟨r0,r1⟩:=(hr.grow hB).cells;obtain ⟨rf0,rf1⟩:=(hr.grow hB).frozen))
 exact end_one (v:=R) rfl rfl (by omega) hb0.out hB hr
theorem ro_isnan_f (op:ByteArray) (a:Vl) (e_isnull:(op.toList == [105,115,95,110,117,108,108]) = false) (e_isnan:(op.toList == [105,115,95,110,97,110]) = true) (k1:(a.kind == 3) = false) (w:World):Calls Tryz.prog 80 #[.string op,vlV a] w fun e w'=>e = .returned (.tuple #[vlV (tru false),.bool true])∧Below w.heap.size w w':=by
 obtain ⟨R,hR⟩:∃ R,Hid (R = (tru false)):=⟨_,rfl⟩
 rw [← hR.out]
 obtain ⟨hb0,ha,hr,hB⟩:=pre1 w a
 obtain ⟨a0,a1⟩:=ha.cells
 obtain ⟨r0,r1⟩:=hr.cells
 obtain ⟨rf0,rf1⟩:=hr.frozen
 have hU:=fun W=>truU hR W
 unfold vlV
 go_enter Tryz.func80,Tryz.ntmps80
 go_wp2_with (first
 |(go_at_call 123;(with_reducible refine (hU _).mono ?_);rintro e w5 ⟨rfl,hq⟩;replace hB:=hB.trans (hq.mono hB.size);obtain ⟨a0,a1⟩:=(ha.grow hB).cells;obtain ⟨r0,r1⟩:=(hr.grow hB).cells;obtain ⟨rf0,rf1⟩:=(hr.grow hB).frozen))
 exact end_one (v:=R) rfl rfl (by omega) hb0.out hB hr
theorem ro_isinf_1 (op:ByteArray) (a:Vl) (e_isnull:(op.toList == [105,115,95,110,117,108,108]) = false) (e_isnan:(op.toList == [105,115,95,110,97,110]) = false) (e_isinf:(op.toList == [105,115,95,105,110,102]) = true) (k1:(a.kind == 4) = true) (w:World):Calls Tryz.prog 80 #[.string op,vlV a] w fun e w'=>e = .returned (.tuple #[vlV (tru true),.bool true])∧Below w.heap.size w w':=by
 obtain ⟨R,hR⟩:∃ R,Hid (R = (tru true)):=⟨_,rfl⟩
 rw [← hR.out]
 obtain ⟨hb0,ha,hr,hB⟩:=pre1 w a
 obtain ⟨a0,a1⟩:=ha.cells
 obtain ⟨r0,r1⟩:=hr.cells
 obtain ⟨rf0,rf1⟩:=hr.frozen
 have hU:=fun W=>truU hR W
 unfold vlV
 go_enter Tryz.func80,Tryz.ntmps80
 go_wp2_with (first
 |(go_at_call 123;(with_reducible refine (hU _).mono ?_);rintro e w5 ⟨rfl,hq⟩;replace hB:=hB.trans (hq.mono hB.size);obtain ⟨a0,a1⟩:=(ha.grow hB).cells;obtain ⟨r0,r1⟩:=(hr.grow hB).cells;obtain ⟨rf0,rf1⟩:=(hr.grow hB).frozen))
 exact end_one (v:=R) rfl rfl (by omega) hb0.out hB hr
theorem ro_isinf_t (op:ByteArray) (a:Vl) (e_isnull:(op.toList == [105,115,95,110,117,108,108]) = false) (e_isnan:(op.toList == [105,115,95,110,97,110]) = false) (e_isinf:(op.toList == [105,115,95,105,110,102]) = true) (k1:(a.kind == 4) = false) (k2:(a.kind == 5) = true) (w:World):Calls Tryz.prog 80 #[.string op,vlV a] w fun e w'=>e = .returned (.tuple #[vlV (tru true),.bool true])∧Below w.heap.size w w':=by
 obtain ⟨R,hR⟩:∃ R,Hid (R = (tru true)):=⟨_,rfl⟩
 rw [← hR.out]
 obtain ⟨hb0,ha,hr,hB⟩:=pre1 w a
 obtain ⟨a0,a1⟩:=ha.cells
 obtain ⟨r0,r1⟩:=hr.cells
 obtain ⟨rf0,rf1⟩:=hr.frozen
 have hU:=fun W=>truU hR W
 unfold vlV
 go_enter Tryz.func80,Tryz.ntmps80
 go_wp2_with (first
 |(go_at_call 123;(with_reducible refine (hU _).mono ?_);rintro e w5 ⟨rfl,hq⟩;replace hB:=hB.trans (hq.mono hB.size);obtain ⟨a0,a1⟩:=(ha.grow hB).cells;obtain ⟨r0,r1⟩:=(hr.grow hB).cells;obtain ⟨rf0,rf1⟩:=(hr.grow hB).frozen))
 exact end_one (v:=R) rfl rfl (by omega) hb0.out hB hr
theorem ro_isinf_f (op:ByteArray) (a:Vl) (e_isnull:(op.toList == [105,115,95,110,117,108,108]) = false) (e_isnan:(op.toList == [105,115,95,110,97,110]) = false) (e_isinf:(op.toList == [105,115,95,105,110,102]) = true) (k1:(a.kind == 4) = false) (k2:(a.kind == 5) = false) (w:World):Calls Tryz.prog 80 #[.string op,vlV a] w fun e w'=>e = .returned (.tuple #[vlV (tru false),.bool true])∧Below w.heap.size w w':=by
 obtain ⟨R,hR⟩:∃ R,Hid (R = (tru false)):=⟨_,rfl⟩
 rw [← hR.out]
 obtain ⟨hb0,ha,hr,hB⟩:=pre1 w a
 obtain ⟨a0,a1⟩:=ha.cells
 obtain ⟨r0,r1⟩:=hr.cells
 obtain ⟨rf0,rf1⟩:=hr.frozen
 have hU:=fun W=>truU hR W
 unfold vlV
 go_enter Tryz.func80,Tryz.ntmps80
 go_wp2_with (first
 |(go_at_call 123;(with_reducible refine (hU _).mono ?_);rintro e w5 ⟨rfl,hq⟩;replace hB:=hB.trans (hq.mono hB.size);obtain ⟨a0,a1⟩:=(ha.grow hB).cells;obtain ⟨r0,r1⟩:=(hr.grow hB).cells;obtain ⟨rf0,rf1⟩:=(hr.grow hB).frozen))
 exact end_one (v:=R) rfl rfl (by omega) hb0.out hB hr
theorem ro_isnum_t (op:ByteArray) (a:Vl) (e_isnull:(op.toList == [105,115,95,110,117,108,108]) = false) (e_isnan:(op.toList == [105,115,95,110,97,110]) = false) (e_isinf:(op.toList == [105,115,95,105,110,102]) = false) (e_isnum:(op.toList == [105,115,95,110,117,109,98,101,114]) = true) (k1:(a.kind == 1) = true) (w:World):Calls Tryz.prog 80 #[.string op,vlV a] w fun e w'=>e = .returned (.tuple #[vlV (tru true),.bool true])∧Below w.heap.size w w':=by
 obtain ⟨R,hR⟩:∃ R,Hid (R = (tru true)):=⟨_,rfl⟩
 rw [← hR.out]
 obtain ⟨hb0,ha,hr,hB⟩:=pre1 w a
 obtain ⟨a0,a1⟩:=ha.cells
 obtain ⟨r0,r1⟩:=hr.cells
 obtain ⟨rf0,rf1⟩:=hr.frozen
 have hU:=fun W=>truU hR W
 have hK:∀ W:World,Calls Tryz.prog 124 #[.agg #[.int .i64 a.kind,.int .i64 a.n]] W fun e w'=>e = .returned (.bool true)∧Below W.heap.size W w':=fun W=>by rw [← k1];exact knum_any a W
 clear k1
 unfold vlV
 go_enter Tryz.func80,Tryz.ntmps80
 go_wp2_with (first
 |(go_at_call 124;(with_reducible refine (hK _).mono ?_);rintro e w5 ⟨rfl,hq⟩;replace hB:=hB.trans (hq.mono hB.size);obtain ⟨a0,a1⟩:=(ha.grow hB).cells;obtain ⟨r0,r1⟩:=(hr.grow hB).cells;obtain ⟨rf0,rf1⟩:=(hr.grow hB).frozen)
 |(go_at_call 123;(with_reducible refine (hU _).mono ?_);rintro e w6 ⟨rfl,hq⟩;replace hB:=hB.trans (hq.mono hB.size);obtain ⟨a0,a1⟩:=(ha.grow hB).cells;obtain ⟨r0,r1⟩:=(hr.grow hB).cells;obtain ⟨rf0,rf1⟩:=(hr.grow hB).frozen))
 exact end_one (v:=R) rfl rfl (by omega) hb0.out hB hr
theorem ro_isnum_f (op:ByteArray) (a:Vl) (e_isnull:(op.toList == [105,115,95,110,117,108,108]) = false) (e_isnan:(op.toList == [105,115,95,110,97,110]) = false) (e_isinf:(op.toList == [105,115,95,105,110,102]) = false) (e_isnum:(op.toList == [105,115,95,110,117,109,98,101,114]) = true) (k1:(a.kind == 1) = false) (w:World):Calls Tryz.prog 80 #[.string op,vlV a] w fun e w'=>e = .returned (.tuple #[vlV (tru false),.bool true])∧Below w.heap.size w w':=by
 obtain ⟨R,hR⟩:∃ R,Hid (R = (tru false)):=⟨_,rfl⟩
 rw [← hR.out]
 obtain ⟨hb0,ha,hr,hB⟩:=pre1 w a
 obtain ⟨a0,a1⟩:=ha.cells
 obtain ⟨r0,r1⟩:=hr.cells
 obtain ⟨rf0,rf1⟩:=hr.frozen
 have hU:=fun W=>truU hR W
 have hK:∀ W:World,Calls Tryz.prog 124 #[.agg #[.int .i64 a.kind,.int .i64 a.n]] W fun e w'=>e = .returned (.bool false)∧Below W.heap.size W w':=fun W=>by rw [← k1];exact knum_any a W
 clear k1
 unfold vlV
 go_enter Tryz.func80,Tryz.ntmps80
 go_wp2_with (first
 |(go_at_call 124;(with_reducible refine (hK _).mono ?_);rintro e w5 ⟨rfl,hq⟩;replace hB:=hB.trans (hq.mono hB.size);obtain ⟨a0,a1⟩:=(ha.grow hB).cells;obtain ⟨r0,r1⟩:=(hr.grow hB).cells;obtain ⟨rf0,rf1⟩:=(hr.grow hB).frozen)
 |(go_at_call 123;(with_reducible refine (hU _).mono ?_);rintro e w6 ⟨rfl,hq⟩;replace hB:=hB.trans (hq.mono hB.size);obtain ⟨a0,a1⟩:=(ha.grow hB).cells;obtain ⟨r0,r1⟩:=(hr.grow hB).cells;obtain ⟨rf0,rf1⟩:=(hr.grow hB).frozen))
 exact end_one (v:=R) rfl rfl (by omega) hb0.out hB hr
theorem ro_none (op:ByteArray) (a:Vl) (e_isnull:(op.toList == [105,115,95,110,117,108,108]) = false) (e_isnan:(op.toList == [105,115,95,110,97,110]) = false) (e_isinf:(op.toList == [105,115,95,105,110,102]) = false) (e_isnum:(op.toList == [105,115,95,110,117,109,98,101,114]) = false) (e_minus:(op.toList == [45]) = false) (e_abs:(op.toList == [97,98,115]) = false) (e_floor:(op.toList == [102,108,111,111,114]) = false) (e_not:(op.toList == [33]) = false) (w:World):Calls Tryz.prog 80 #[.string op,vlV a] w fun e w'=>e = .returned (.tuple #[vlV zer,.bool false])∧Below w.heap.size w w':=by
 obtain ⟨hb0,ha,hr,hB⟩:=pre1 w a
 obtain ⟨a0,a1⟩:=ha.cells
 obtain ⟨r0,r1⟩:=hr.cells
 obtain ⟨rf0,rf1⟩:=hr.frozen
 unfold vlV
 go_enter Tryz.func80,Tryz.ntmps80
 go_wp2
 exact ret_cell2 Tryz.results80 rfl (vlNew1 w _ zer) rfl ⟨rfl,(bW0 w _).alloc (by simp) _⟩
theorem ro_minus_null (op:ByteArray) (a:Vl) (e_isnull:(op.toList == [105,115,95,110,117,108,108]) = false) (e_isnan:(op.toList == [105,115,95,110,97,110]) = false) (e_isinf:(op.toList == [105,115,95,105,110,102]) = false) (e_isnum:(op.toList == [105,115,95,110,117,109,98,101,114]) = false) (e_minus:(op.toList == [45]) = true) (n1:(a.kind == 2) = true) (w:World):Calls Tryz.prog 80 #[.string op,vlV a] w fun e w'=>e = .returned (.tuple #[vlV a,.bool true])∧Below w.heap.size w w':=by
 obtain ⟨hb0,ha,hr,hB⟩:=pre1 w a
 obtain ⟨a0,a1⟩:=ha.cells
 obtain ⟨r0,r1⟩:=hr.cells
 obtain ⟨rf0,rf1⟩:=hr.frozen
 unfold vlV
 go_enter Tryz.func80,Tryz.ntmps80
 go_wp2
 exact ret_cell2 Tryz.results80 rfl (vlNew1 w _ a) rfl ⟨rfl,(bW0 w _).alloc (by simp) _⟩
theorem ro_abs_null (op:ByteArray) (a:Vl) (e_isnull:(op.toList == [105,115,95,110,117,108,108]) = false) (e_isnan:(op.toList == [105,115,95,110,97,110]) = false) (e_isinf:(op.toList == [105,115,95,105,110,102]) = false) (e_isnum:(op.toList == [105,115,95,110,117,109,98,101,114]) = false) (e_minus:(op.toList == [45]) = false) (e_abs:(op.toList == [97,98,115]) = true) (n1:(a.kind == 2) = true) (w:World):Calls Tryz.prog 80 #[.string op,vlV a] w fun e w'=>e = .returned (.tuple #[vlV a,.bool true])∧Below w.heap.size w w':=by
 obtain ⟨hb0,ha,hr,hB⟩:=pre1 w a
 obtain ⟨a0,a1⟩:=ha.cells
 obtain ⟨r0,r1⟩:=hr.cells
 obtain ⟨rf0,rf1⟩:=hr.frozen
 unfold vlV
 go_enter Tryz.func80,Tryz.ntmps80
 go_wp2
 exact ret_cell2 Tryz.results80 rfl (vlNew1 w _ a) rfl ⟨rfl,(bW0 w _).alloc (by simp) _⟩
theorem ro_floor_null (op:ByteArray) (a:Vl) (e_isnull:(op.toList == [105,115,95,110,117,108,108]) = false) (e_isnan:(op.toList == [105,115,95,110,97,110]) = false) (e_isinf:(op.toList == [105,115,95,105,110,102]) = false) (e_isnum:(op.toList == [105,115,95,110,117,109,98,101,114]) = false) (e_minus:(op.toList == [45]) = false) (e_abs:(op.toList == [97,98,115]) = false) (e_floor:(op.toList == [102,108,111,111,114]) = true) (n1:(a.kind == 2) = true) (w:World):Calls Tryz.prog 80 #[.string op,vlV a] w fun e w'=>e = .returned (.tuple #[vlV a,.bool true])∧Below w.heap.size w w':=by
 obtain ⟨hb0,ha,hr,hB⟩:=pre1 w a
 obtain ⟨a0,a1⟩:=ha.cells
 obtain ⟨r0,r1⟩:=hr.cells
 obtain ⟨rf0,rf1⟩:=hr.frozen
 unfold vlV
 go_enter Tryz.func80,Tryz.ntmps80
 go_wp2
 exact ret_cell2 Tryz.results80 rfl (vlNew1 w _ a) rfl ⟨rfl,(bW0 w _).alloc (by simp) _⟩
theorem ro_not_null (op:ByteArray) (a:Vl) (e_isnull:(op.toList == [105,115,95,110,117,108,108]) = false) (e_isnan:(op.toList == [105,115,95,110,97,110]) = false) (e_isinf:(op.toList == [105,115,95,105,110,102]) = false) (e_isnum:(op.toList == [105,115,95,110,117,109,98,101,114]) = false) (e_minus:(op.toList == [45]) = false) (e_abs:(op.toList == [97,98,115]) = false) (e_floor:(op.toList == [102,108,111,111,114]) = false) (e_not:(op.toList == [33]) = true) (n1:(a.kind == 2) = true) (w:World):Calls Tryz.prog 80 #[.string op,vlV a] w fun e w'=>e = .returned (.tuple #[vlV a,.bool true])∧Below w.heap.size w w':=by
 obtain ⟨hb0,ha,hr,hB⟩:=pre1 w a
 obtain ⟨a0,a1⟩:=ha.cells
 obtain ⟨r0,r1⟩:=hr.cells
 obtain ⟨rf0,rf1⟩:=hr.frozen
 unfold vlV
 go_enter Tryz.func80,Tryz.ntmps80
 go_wp2
 exact ret_cell2 Tryz.results80 rfl (vlNew1 w _ a) rfl ⟨rfl,(bW0 w _).alloc (by simp) _⟩
theorem ro_not_t (op:ByteArray) (a:Vl) (e_isnull:(op.toList == [105,115,95,110,117,108,108]) = false) (e_isnan:(op.toList == [105,115,95,110,97,110]) = false) (e_isinf:(op.toList == [105,115,95,105,110,102]) = false) (e_isnum:(op.toList == [105,115,95,110,117,109,98,101,114]) = false) (e_minus:(op.toList == [45]) = false) (e_abs:(op.toList == [97,98,115]) = false) (e_floor:(op.toList == [102,108,111,111,114]) = false) (e_not:(op.toList == [33]) = true) (n1:(a.kind == 2) = false) (tA:truB a = true) (w:World):Calls Tryz.prog 80 #[.string op,vlV a] w fun e w'=>e = .returned (.tuple #[vlV (tru false),.bool true])∧Below w.heap.size w w':=by
 obtain ⟨R,hR⟩:∃ R,Hid (R = (tru false)):=⟨_,rfl⟩
 rw [← hR.out]
 obtain ⟨hb0,ha,hr,hB⟩:=pre1 w a
 obtain ⟨a0,a1⟩:=ha.cells
 obtain ⟨r0,r1⟩:=hr.cells
 obtain ⟨rf0,rf1⟩:=hr.frozen
 have hU:=fun W=>truU hR W
 have hT:∀ W:World,Calls Tryz.prog 125 #[.agg #[.int .i64 a.kind,.int .i64 a.n]] W fun e w'=>e = .returned (.bool true)∧Below W.heap.size W w':=fun W=>by rw [← tA];exact rtrue_any a W
 clear tA
 unfold vlV
 go_enter Tryz.func80,Tryz.ntmps80
 go_wp2_with (first
 |(go_at_call 125;(with_reducible refine (hT _).mono ?_);rintro e w5 ⟨rfl,hq⟩;replace hB:=hB.trans (hq.mono hB.size);obtain ⟨a0,a1⟩:=(ha.grow hB).cells;obtain ⟨r0,r1⟩:=(hr.grow hB).cells;obtain ⟨rf0,rf1⟩:=(hr.grow hB).frozen)
 |(go_at_call 123;(with_reducible refine (hU _).mono ?_);rintro e w6 ⟨rfl,hq⟩;replace hB:=hB.trans (hq.mono hB.size);obtain ⟨a0,a1⟩:=(ha.grow hB).cells;obtain ⟨r0,r1⟩:=(hr.grow hB).cells;obtain ⟨rf0,rf1⟩:=(hr.grow hB).frozen))
 exact end_one (v:=R) rfl rfl (by omega) hb0.out hB hr
theorem ro_not_f (op:ByteArray) (a:Vl) (e_isnull:(op.toList == [105,115,95,110,117,108,108]) = false) (e_isnan:(op.toList == [105,115,95,110,97,110]) = false) (e_isinf:(op.toList == [105,115,95,105,110,102]) = false) (e_isnum:(op.toList == [105,115,95,110,117,109,98,101,114]) = false) (e_minus:(op.toList == [45]) = false) (e_abs:(op.toList == [97,98,115]) = false) (e_floor:(op.toList == [102,108,111,111,114]) = false) (e_not:(op.toList == [33]) = true) (n1:(a.kind == 2) = false) (tA:truB a = false) (w:World):Calls Tryz.prog 80 #[.string op,vlV a] w fun e w'=>e = .returned (.tuple #[vlV (tru true),.bool true])∧Below w.heap.size w w':=by
 obtain ⟨R,hR⟩:∃ R,Hid (R = (tru true)):=⟨_,rfl⟩
 rw [← hR.out]
 obtain ⟨hb0,ha,hr,hB⟩:=pre1 w a
 obtain ⟨a0,a1⟩:=ha.cells
 obtain ⟨r0,r1⟩:=hr.cells
 obtain ⟨rf0,rf1⟩:=hr.frozen
 have hU:=fun W=>truU hR W
 have hT:∀ W:World,Calls Tryz.prog 125 #[.agg #[.int .i64 a.kind,.int .i64 a.n]] W fun e w'=>e = .returned (.bool false)∧Below W.heap.size W w':=fun W=>by rw [← tA];exact rtrue_any a W
 clear tA
 unfold vlV
 go_enter Tryz.func80,Tryz.ntmps80
 go_wp2_with (first
 |(go_at_call 125;(with_reducible refine (hT _).mono ?_);rintro e w5 ⟨rfl,hq⟩;replace hB:=hB.trans (hq.mono hB.size);obtain ⟨a0,a1⟩:=(ha.grow hB).cells;obtain ⟨r0,r1⟩:=(hr.grow hB).cells;obtain ⟨rf0,rf1⟩:=(hr.grow hB).frozen)
 |(go_at_call 123;(with_reducible refine (hU _).mono ?_);rintro e w6 ⟨rfl,hq⟩;replace hB:=hB.trans (hq.mono hB.size);obtain ⟨a0,a1⟩:=(ha.grow hB).cells;obtain ⟨r0,r1⟩:=(hr.grow hB).cells;obtain ⟨rf0,rf1⟩:=(hr.grow hB).frozen))
 exact end_one (v:=R) rfl rfl (by omega) hb0.out hB hr
theorem ro_minus_nan (op:ByteArray) (a:Vl) (e_isnull:(op.toList == [105,115,95,110,117,108,108]) = false) (e_isnan:(op.toList == [105,115,95,110,97,110]) = false) (e_isinf:(op.toList == [105,115,95,105,110,102]) = false) (e_isnum:(op.toList == [105,115,95,110,117,109,98,101,114]) = false) (e_minus:(op.toList == [45]) = true) (e_not:(op.toList == [33]) = false) (e_abs:(op.toList == [97,98,115]) = false) (e_floor:(op.toList == [102,108,111,111,114]) = false) (n1:(a.kind == 2) = false) (k3:(a.kind == 3) = true) (w:World):Calls Tryz.prog 80 #[.string op,vlV a] w fun e w'=>e = .returned (.tuple #[vlV a,.bool true])∧Below w.heap.size w w':=by
 obtain ⟨hb0,ha,hr,hB⟩:=pre1 w a
 obtain ⟨a0,a1⟩:=ha.cells
 obtain ⟨r0,r1⟩:=hr.cells
 obtain ⟨rf0,rf1⟩:=hr.frozen
 unfold vlV
 go_enter Tryz.func80,Tryz.ntmps80
 go_wp2
 exact ret_cell2 Tryz.results80 rfl (vlNew1 w _ a) rfl ⟨rfl,(bW0 w _).alloc (by simp) _⟩
theorem ro_abs_nan (op:ByteArray) (a:Vl) (e_isnull:(op.toList == [105,115,95,110,117,108,108]) = false) (e_isnan:(op.toList == [105,115,95,110,97,110]) = false) (e_isinf:(op.toList == [105,115,95,105,110,102]) = false) (e_isnum:(op.toList == [105,115,95,110,117,109,98,101,114]) = false) (e_minus:(op.toList == [45]) = false) (e_abs:(op.toList == [97,98,115]) = true) (e_not:(op.toList == [33]) = false) (e_floor:(op.toList == [102,108,111,111,114]) = false) (n1:(a.kind == 2) = false) (k3:(a.kind == 3) = true) (w:World):Calls Tryz.prog 80 #[.string op,vlV a] w fun e w'=>e = .returned (.tuple #[vlV a,.bool true])∧Below w.heap.size w w':=by
 obtain ⟨hb0,ha,hr,hB⟩:=pre1 w a
 obtain ⟨a0,a1⟩:=ha.cells
 obtain ⟨r0,r1⟩:=hr.cells
 obtain ⟨rf0,rf1⟩:=hr.frozen
 unfold vlV
 go_enter Tryz.func80,Tryz.ntmps80
 go_wp2
 exact ret_cell2 Tryz.results80 rfl (vlNew1 w _ a) rfl ⟨rfl,(bW0 w _).alloc (by simp) _⟩
theorem ro_floor_nan (op:ByteArray) (a:Vl) (e_isnull:(op.toList == [105,115,95,110,117,108,108]) = false) (e_isnan:(op.toList == [105,115,95,110,97,110]) = false) (e_isinf:(op.toList == [105,115,95,105,110,102]) = false) (e_isnum:(op.toList == [105,115,95,110,117,109,98,101,114]) = false) (e_minus:(op.toList == [45]) = false) (e_abs:(op.toList == [97,98,115]) = false) (e_floor:(op.toList == [102,108,111,111,114]) = true) (e_not:(op.toList == [33]) = false) (n1:(a.kind == 2) = false) (k3:(a.kind == 3) = true) (w:World):Calls Tryz.prog 80 #[.string op,vlV a] w fun e w'=>e = .returned (.tuple #[vlV a,.bool true])∧Below w.heap.size w w':=by
 obtain ⟨hb0,ha,hr,hB⟩:=pre1 w a
 obtain ⟨a0,a1⟩:=ha.cells
 obtain ⟨r0,r1⟩:=hr.cells
 obtain ⟨rf0,rf1⟩:=hr.frozen
 unfold vlV
 go_enter Tryz.func80,Tryz.ntmps80
 go_wp2
 exact ret_cell2 Tryz.results80 rfl (vlNew1 w _ a) rfl ⟨rfl,(bW0 w _).alloc (by simp) _⟩
theorem ro_minus (op:ByteArray) (a:Vl) (hva:IsV a) (e_isnull:(op.toList == [105,115,95,110,117,108,108]) = false) (e_isnan:(op.toList == [105,115,95,110,97,110]) = false) (e_isinf:(op.toList == [105,115,95,105,110,102]) = false) (e_isnum:(op.toList == [105,115,95,110,117,109,98,101,114]) = false) (e_minus:(op.toList == [45]) = true) (e_not:(op.toList == [33]) = false) (e_abs:(op.toList == [97,98,115]) = false) (e_floor:(op.toList == [102,108,111,111,114]) = false) (n1:(a.kind == 2) = false) (k3:(a.kind == 3) = false) (w:World):Calls Tryz.prog 80 #[.string op,vlV a] w fun e w'=>e = .returned (.tuple #[vlV (neg a),.bool true])∧Below w.heap.size w w':=by
 obtain ⟨R,hR⟩:∃ R,Hid (R = (neg a)):=⟨_,rfl⟩
 rw [← hR.out]
 obtain ⟨hb0,ha,hr,hB⟩:=pre1 w a
 obtain ⟨a0,a1⟩:=ha.cells
 obtain ⟨r0,r1⟩:=hr.cells
 obtain ⟨rf0,rf1⟩:=hr.frozen
 have hT:∀ W:World,Calls Tryz.prog 127 #[.agg #[.int .i64 a.kind,.int .i64 a.n]] W fun e w'=>e = .returned (.agg #[.int .i64 R.kind,.int .i64 R.n])∧Below W.heap.size W w':=fun W=>by rw [hR.out];exact rturned_any a hva W
 clear hva
 unfold vlV
 go_enter Tryz.func80,Tryz.ntmps80
 go_wp2_with (first
 |(go_at_call 127;(with_reducible refine (hT _).mono ?_);rintro e w5 ⟨rfl,hq⟩;replace hB:=hB.trans (hq.mono hB.size);obtain ⟨a0,a1⟩:=(ha.grow hB).cells;obtain ⟨r0,r1⟩:=(hr.grow hB).cells;obtain ⟨rf0,rf1⟩:=(hr.grow hB).frozen))
 exact end_one (v:=R) rfl rfl (by omega) hb0.out hB hr
theorem ro_abs_neg (op:ByteArray) (a:Vl) (hva:IsV a) (hs:sgn a < 0) (e_isnull:(op.toList == [105,115,95,110,117,108,108]) = false) (e_isnan:(op.toList == [105,115,95,110,97,110]) = false) (e_isinf:(op.toList == [105,115,95,105,110,102]) = false) (e_isnum:(op.toList == [105,115,95,110,117,109,98,101,114]) = false) (e_minus:(op.toList == [45]) = false) (e_abs:(op.toList == [97,98,115]) = true) (e_not:(op.toList == [33]) = false) (e_floor:(op.toList == [102,108,111,111,114]) = false) (n1:(a.kind == 2) = false) (k3:(a.kind == 3) = false) (w:World):Calls Tryz.prog 80 #[.string op,vlV a] w fun e w'=>e = .returned (.tuple #[vlV (neg a),.bool true])∧Below w.heap.size w w':=by
 obtain ⟨R,hR⟩:∃ R,Hid (R = (neg a)):=⟨_,rfl⟩
 rw [← hR.out]
 obtain ⟨hb0,ha,hr,hB⟩:=pre1 w a
 obtain ⟨a0,a1⟩:=ha.cells
 obtain ⟨r0,r1⟩:=hr.cells
 obtain ⟨rf0,rf1⟩:=hr.frozen
 obtain ⟨S,hS⟩:∃ S,Hid (S = sgn a):=⟨_,rfl⟩
 have hG:∀ W:World,Calls Tryz.prog 126 #[.agg #[.int .i64 a.kind,.int .i64 a.n]] W fun e w'=>e = .returned (.int .i64 S)∧Below W.heap.size W w':=fun W=>by rw [hS.out];exact rsign_any a W
 rw [← hS.out] at hs
 have hT:∀ W:World,Calls Tryz.prog 127 #[.agg #[.int .i64 a.kind,.int .i64 a.n]] W fun e w'=>e = .returned (.agg #[.int .i64 R.kind,.int .i64 R.n])∧Below W.heap.size W w':=fun W=>by rw [hR.out];exact rturned_any a hva W
 clear hva
 unfold vlV
 go_enter Tryz.func80,Tryz.ntmps80
 go_wp2_with (first
 |(go_at_call 126;(with_reducible refine (hG _).mono ?_);rintro e w5 ⟨rfl,hq⟩;replace hB:=hB.trans (hq.mono hB.size);obtain ⟨a0,a1⟩:=(ha.grow hB).cells;obtain ⟨r0,r1⟩:=(hr.grow hB).cells;obtain ⟨rf0,rf1⟩:=(hr.grow hB).frozen)
 |(go_at_call 127;(with_reducible refine (hT _).mono ?_);rintro e w6 ⟨rfl,hq⟩;replace hB:=hB.trans (hq.mono hB.size);obtain ⟨a0,a1⟩:=(ha.grow hB).cells;obtain ⟨r0,r1⟩:=(hr.grow hB).cells;obtain ⟨rf0,rf1⟩:=(hr.grow hB).frozen))
 exact end_one (v:=R) rfl rfl (by omega) hb0.out hB hr
theorem ro_abs_pos (op:ByteArray) (a:Vl) (hs:¬ sgn a < 0) (e_isnull:(op.toList == [105,115,95,110,117,108,108]) = false) (e_isnan:(op.toList == [105,115,95,110,97,110]) = false) (e_isinf:(op.toList == [105,115,95,105,110,102]) = false) (e_isnum:(op.toList == [105,115,95,110,117,109,98,101,114]) = false) (e_minus:(op.toList == [45]) = false) (e_abs:(op.toList == [97,98,115]) = true) (e_not:(op.toList == [33]) = false) (e_floor:(op.toList == [102,108,111,111,114]) = false) (n1:(a.kind == 2) = false) (k3:(a.kind == 3) = false) (w:World):Calls Tryz.prog 80 #[.string op,vlV a] w fun e w'=>e = .returned (.tuple #[vlV a,.bool true])∧Below w.heap.size w w':=by
 obtain ⟨hb0,ha,hr,hB⟩:=pre1 w a
 obtain ⟨a0,a1⟩:=ha.cells
 obtain ⟨r0,r1⟩:=hr.cells
 obtain ⟨rf0,rf1⟩:=hr.frozen
 obtain ⟨S,hS⟩:∃ S,Hid (S = sgn a):=⟨_,rfl⟩
 have hG:∀ W:World,Calls Tryz.prog 126 #[.agg #[.int .i64 a.kind,.int .i64 a.n]] W fun e w'=>e = .returned (.int .i64 S)∧Below W.heap.size W w':=fun W=>by rw [hS.out];exact rsign_any a W
 rw [← hS.out] at hs
 unfold vlV
 go_enter Tryz.func80,Tryz.ntmps80
 go_wp2_with (first
 |(go_at_call 126;(with_reducible refine (hG _).mono ?_);rintro e w5 ⟨rfl,hq⟩;replace hB:=hB.trans (hq.mono hB.size);obtain ⟨a0,a1⟩:=(ha.grow hB).cells;obtain ⟨r0,r1⟩:=(hr.grow hB).cells;obtain ⟨rf0,rf1⟩:=(hr.grow hB).frozen))
 exact end_one (v:=a) rfl rfl (by omega) hb0.out hB hr
theorem ro_floor_odd (op:ByteArray) (a:Vl) (k1:(a.kind == 1) = false) (e_isnull:(op.toList == [105,115,95,110,117,108,108]) = false) (e_isnan:(op.toList == [105,115,95,110,97,110]) = false) (e_isinf:(op.toList == [105,115,95,105,110,102]) = false) (e_isnum:(op.toList == [105,115,95,110,117,109,98,101,114]) = false) (e_minus:(op.toList == [45]) = false) (e_abs:(op.toList == [97,98,115]) = false) (e_floor:(op.toList == [102,108,111,111,114]) = true) (e_not:(op.toList == [33]) = false) (n1:(a.kind == 2) = false) (k3:(a.kind == 3) = false) (w:World):Calls Tryz.prog 80 #[.string op,vlV a] w fun e w'=>e = .returned (.tuple #[vlV a,.bool true])∧Below w.heap.size w w':=by
 obtain ⟨hb0,ha,hr,hB⟩:=pre1 w a
 obtain ⟨a0,a1⟩:=ha.cells
 obtain ⟨r0,r1⟩:=hr.cells
 obtain ⟨rf0,rf1⟩:=hr.frozen
 have hK:∀ W:World,Calls Tryz.prog 124 #[.agg #[.int .i64 a.kind,.int .i64 a.n]] W fun e w'=>e = .returned (.bool false)∧Below W.heap.size W w':=fun W=>by rw [← k1];exact knum_any a W
 replace k1:Hid _:=k1
 unfold vlV
 go_enter Tryz.func80,Tryz.ntmps80
 go_wp2_with (first
 |(go_at_call 124;(with_reducible refine (hK _).mono ?_);rintro e w5 ⟨rfl,hq⟩;replace hB:=hB.trans (hq.mono hB.size);obtain ⟨a0,a1⟩:=(ha.grow hB).cells;obtain ⟨r0,r1⟩:=(hr.grow hB).cells;obtain ⟨rf0,rf1⟩:=(hr.grow hB).frozen))
 exact end_one (v:=a) rfl rfl (by omega) hb0.out hB hr
theorem ro_floor_neg (op:ByteArray) (a:Vl) (h1:-1000000000000000 ≤ a.n) (h2:a.n ≤ 1000000000000000) (hs:a.n.tmod 1000 < 0) (k1:(a.kind == 1) = true) (e_isnull:(op.toList == [105,115,95,110,117,108,108]) = false) (e_isnan:(op.toList == [105,115,95,110,97,110]) = false) (e_isinf:(op.toList == [105,115,95,105,110,102]) = false) (e_isnum:(op.toList == [105,115,95,110,117,109,98,101,114]) = false) (e_minus:(op.toList == [45]) = false) (e_abs:(op.toList == [97,98,115]) = false) (e_floor:(op.toList == [102,108,111,111,114]) = true) (e_not:(op.toList == [33]) = false) (n1:(a.kind == 2) = false) (k3:(a.kind == 3) = false) (w:World):Calls Tryz.prog 80 #[.string op,vlV a] w fun e w'=>e = .returned (.tuple #[vlV (num (a.n - (a.n.tmod 1000 + 1000))),.bool true])∧Below w.heap.size w w':=by
 obtain ⟨R,hR⟩:∃ R,Hid (R = (num (a.n - (a.n.tmod 1000 + 1000)))):=⟨_,rfl⟩
 rw [← hR.out]
 obtain ⟨hb0,ha,hr,hB⟩:=pre1 w a
 obtain ⟨a0,a1⟩:=ha.cells
 obtain ⟨r0,r1⟩:=hr.cells
 obtain ⟨rf0,rf1⟩:=hr.frozen
 have hK:∀ W:World,Calls Tryz.prog 124 #[.agg #[.int .i64 a.kind,.int .i64 a.n]] W fun e w'=>e = .returned (.bool true)∧Below W.heap.size W w':=fun W=>by rw [← k1];exact knum_any a W
 replace k1:Hid _:=k1
 have hmm:=Int.tmod_lt_of_pos a.n (by decide:(0:Int) < 1000)
 have hml:=Int.lt_tmod_of_pos a.n (by decide:(0:Int) < 1000)
 have hM:∀ W:World,Calls Tryz.prog 26 #[.int .i64 (a.n - (a.n.tmod 1000 + 1000))] W fun e w'=>e = .returned (.agg #[.int .i64 R.kind,.int .i64 R.n])∧Below W.heap.size W w':=fun W=>by rw [hR.out];exact rnum_any _ W
 have w1:wrap64 (a.n.tmod 1000 + 1000) = a.n.tmod 1000 + 1000:=Go.IntWalk.wrap64_in _ (by omega)
 have w2:wrap64 (a.n - (a.n.tmod 1000 + 1000)) = a.n - (a.n.tmod 1000 + 1000):=Go.IntWalk.wrap64_in _ (by omega)
 unfold vlV
 go_enter Tryz.func80,Tryz.ntmps80
 go_wp2_with (first
 |(go_at_call 124;(with_reducible refine (hK _).mono ?_);rintro e w5 ⟨rfl,hq⟩;replace hB:=hB.trans (hq.mono hB.size);obtain ⟨a0,a1⟩:=(ha.grow hB).cells;obtain ⟨r0,r1⟩:=(hr.grow hB).cells;obtain ⟨rf0,rf1⟩:=(hr.grow hB).frozen)
 |(go_at_call 26;(with_reducible refine (hM _).mono ?_);rintro e w6 ⟨rfl,hq⟩;replace hB:=hB.trans (hq.mono hB.size);obtain ⟨a0,a1⟩:=(ha.grow hB).cells;obtain ⟨r0,r1⟩:=(hr.grow hB).cells;obtain ⟨rf0,rf1⟩:=(hr.grow hB).frozen))
 exact end_one (v:=R) rfl rfl (by omega) hb0.out hB hr
theorem ro_floor_pos (op:ByteArray) (a:Vl) (h1:-1000000000000000 ≤ a.n) (h2:a.n ≤ 1000000000000000) (hs:¬ a.n.tmod 1000 < 0) (k1:(a.kind == 1) = true) (e_isnull:(op.toList == [105,115,95,110,117,108,108]) = false) (e_isnan:(op.toList == [105,115,95,110,97,110]) = false) (e_isinf:(op.toList == [105,115,95,105,110,102]) = false) (e_isnum:(op.toList == [105,115,95,110,117,109,98,101,114]) = false) (e_minus:(op.toList == [45]) = false) (e_abs:(op.toList == [97,98,115]) = false) (e_floor:(op.toList == [102,108,111,111,114]) = true) (e_not:(op.toList == [33]) = false) (n1:(a.kind == 2) = false) (k3:(a.kind == 3) = false) (w:World):Calls Tryz.prog 80 #[.string op,vlV a] w fun e w'=>e = .returned (.tuple #[vlV (num (a.n - a.n.tmod 1000)),.bool true])∧Below w.heap.size w w':=by
 obtain ⟨R,hR⟩:∃ R,Hid (R = (num (a.n - a.n.tmod 1000))):=⟨_,rfl⟩
 rw [← hR.out]
 obtain ⟨hb0,ha,hr,hB⟩:=pre1 w a
 obtain ⟨a0,a1⟩:=ha.cells
 obtain ⟨r0,r1⟩:=hr.cells
 obtain ⟨rf0,rf1⟩:=hr.frozen
 have hK:∀ W:World,Calls Tryz.prog 124 #[.agg #[.int .i64 a.kind,.int .i64 a.n]] W fun e w'=>e = .returned (.bool true)∧Below W.heap.size W w':=fun W=>by rw [← k1];exact knum_any a W
 replace k1:Hid _:=k1
 have hmm:=Int.tmod_lt_of_pos a.n (by decide:(0:Int) < 1000)
 have hml:=Int.lt_tmod_of_pos a.n (by decide:(0:Int) < 1000)
 have hM:∀ W:World,Calls Tryz.prog 26 #[.int .i64 (a.n - a.n.tmod 1000)] W fun e w'=>e = .returned (.agg #[.int .i64 R.kind,.int .i64 R.n])∧Below W.heap.size W w':=fun W=>by rw [hR.out];exact rnum_any _ W
 have w2:wrap64 (a.n - a.n.tmod 1000) = a.n - a.n.tmod 1000:=Go.IntWalk.wrap64_in _ (by omega)
 unfold vlV
 go_enter Tryz.func80,Tryz.ntmps80
 go_wp2_with (first
 |(go_at_call 124;(with_reducible refine (hK _).mono ?_);rintro e w5 ⟨rfl,hq⟩;replace hB:=hB.trans (hq.mono hB.size);obtain ⟨a0,a1⟩:=(ha.grow hB).cells;obtain ⟨r0,r1⟩:=(hr.grow hB).cells;obtain ⟨rf0,rf1⟩:=(hr.grow hB).frozen)
 |(go_at_call 26;(with_reducible refine (hM _).mono ?_);rintro e w6 ⟨rfl,hq⟩;replace hB:=hB.trans (hq.mono hB.size);obtain ⟨a0,a1⟩:=(ha.grow hB).cells;obtain ⟨r0,r1⟩:=(hr.grow hB).cells;obtain ⟨rf0,rf1⟩:=(hr.grow hB).frozen))
 exact end_one (v:=R) rfl rfl (by omega) hb0.out hB hr
theorem odd_neg {a:Vl} (hva:IsV a) (h:(a.kind == 2) = true ∨ (a.kind == 3) = true):neg a = a:=by
 rcases hva with ⟨h1,_⟩ | ⟨h1,h2,h3⟩
 · rw [h1] at h;rcases h with h | h <;> cases h
 · have hk:a.kind ≠ 4∧a.kind ≠ 5:=by rcases h with h | h <;> (have:=eq_of_beq h;omega)
   unfold neg
   rw [if_neg hk.1,if_neg hk.2,h3]
   cases a
   simp only at h3
   rw [h3]
   rfl
theorem floor_num (n:Int) (h1:-1000000000000000 ≤ n) (h2:n ≤ 1000000000000000):(n.tmod 1000 < 0→num (n - (n.tmod 1000 + 1000)) = ⟨1,n - n % 1000⟩)∧(¬ n.tmod 1000 < 0→num (n - n.tmod 1000) = ⟨1,n - n % 1000⟩):=by
 have h3:=Int.tmod_def n 1000
 have h4:=Int.tmod_lt_of_pos n (by decide:(0:Int) < 1000)
 have h5:=Int.lt_tmod_of_pos n (by decide:(0:Int) < 1000)
 have e1:n.tmod 1000 < 0→n.tmod 1000 + 1000 = n % 1000:=fun h=>by omega
 have e2:¬ n.tmod 1000 < 0→n.tmod 1000 = n % 1000:=fun h=>by omega
 refine ⟨fun h=>?_,fun h=>?_⟩
 · rw [e1 h];unfold num;rw [if_neg (by omega),if_neg (by omega)]
 · rw [e2 h];unfold num;rw [if_neg (by omega),if_neg (by omega)]
theorem rone_isnull (a:Vl) (hva:IsV a) (w:World):Calls Tryz.prog 80 #[.string ⟨#[105,115,95,110,117,108,108]⟩,vlV a] w fun e w'=>TwoR (tru (a.kind == 2)) w e w':=by
 unfold TwoR
 cases k1:(a.kind == 2) with
 | true=>exact ro_isnull_t _ a (by decide +kernel) k1 w
 | false=>exact ro_isnull_f _ a (by decide +kernel) k1 w
theorem rone_isnan (a:Vl) (hva:IsV a) (w:World):Calls Tryz.prog 80 #[.string ⟨#[105,115,95,110,97,110]⟩,vlV a] w fun e w'=>TwoR (tru (a.kind == 3)) w e w':=by
 unfold TwoR
 cases k1:(a.kind == 3) with
 | true=>exact ro_isnan_t _ a (by decide +kernel) (by decide +kernel) k1 w
 | false=>exact ro_isnan_f _ a (by decide +kernel) (by decide +kernel) k1 w
theorem rone_isnum (a:Vl) (hva:IsV a) (w:World):Calls Tryz.prog 80 #[.string ⟨#[105,115,95,110,117,109,98,101,114]⟩,vlV a] w fun e w'=>TwoR (tru (a.kind == 1)) w e w':=by
 unfold TwoR
 cases k1:(a.kind == 1) with
 | true=>exact ro_isnum_t _ a (by decide +kernel) (by decide +kernel) (by decide +kernel) (by decide +kernel) k1 w
 | false=>exact ro_isnum_f _ a (by decide +kernel) (by decide +kernel) (by decide +kernel) (by decide +kernel) k1 w
theorem rone_isinf (a:Vl) (hva:IsV a) (w:World):Calls Tryz.prog 80 #[.string ⟨#[105,115,95,105,110,102]⟩,vlV a] w fun e w'=>TwoR (tru (a.kind == 4 || a.kind == 5)) w e w':=by
 unfold TwoR
 cases k1:(a.kind == 4) with
 | true=>exact ro_isinf_1 _ a (by decide +kernel) (by decide +kernel) (by decide +kernel) k1 w
 | false =>
  cases k2:(a.kind == 5) with
  | true=>exact ro_isinf_t _ a (by decide +kernel) (by decide +kernel) (by decide +kernel) k1 k2 w
  | false=>exact ro_isinf_f _ a (by decide +kernel) (by decide +kernel) (by decide +kernel) k1 k2 w
theorem rone_not (a:Vl) (hva:IsV a) (w:World):Calls Tryz.prog 80 #[.string ⟨#[33]⟩,vlV a] w fun e w'=>TwoR (notV a) w e w':=by
 unfold TwoR
 unfold notV
 cases n1:(a.kind == 2) with
 | true=>rw [if_pos (eq_of_beq n1)];exact ro_not_null _ a (by decide +kernel) (by decide +kernel) (by decide +kernel) (by decide +kernel) (by decide +kernel) (by decide +kernel) (by decide +kernel) (by decide +kernel) n1 w
 | false =>
  rw [if_neg (by intro e;simp [e] at n1)]
  cases tA:truB a with
  | true=>exact ro_not_t _ a (by decide +kernel) (by decide +kernel) (by decide +kernel) (by decide +kernel) (by decide +kernel) (by decide +kernel) (by decide +kernel) (by decide +kernel) n1 tA w
  | false=>exact ro_not_f _ a (by decide +kernel) (by decide +kernel) (by decide +kernel) (by decide +kernel) (by decide +kernel) (by decide +kernel) (by decide +kernel) (by decide +kernel) n1 tA w
theorem rone_minus (a:Vl) (hva:IsV a) (w:World):Calls Tryz.prog 80 #[.string ⟨#[45]⟩,vlV a] w fun e w'=>TwoR (negV a) w e w':=by
 unfold TwoR
 unfold negV
 cases n1:(a.kind == 2) with
 | true=>rw [odd_neg hva (.inl n1)];exact ro_minus_null _ a (by decide +kernel) (by decide +kernel) (by decide +kernel) (by decide +kernel) (by decide +kernel) n1 w
 | false =>
  cases k3:(a.kind == 3) with
  | true=>rw [odd_neg hva (.inr k3)];exact ro_minus_nan _ a (by decide +kernel) (by decide +kernel) (by decide +kernel) (by decide +kernel) (by decide +kernel) (by decide +kernel) (by decide +kernel) (by decide +kernel) n1 k3 w
  | false=>exact ro_minus _ a hva (by decide +kernel) (by decide +kernel) (by decide +kernel) (by decide +kernel) (by decide +kernel) (by decide +kernel) (by decide +kernel) (by decide +kernel) n1 k3 w
theorem rone_abs (a:Vl) (hva:IsV a) (w:World):Calls Tryz.prog 80 #[.string ⟨#[97,98,115]⟩,vlV a] w fun e w'=>TwoR (absV a) w e w':=by
 unfold TwoR
 unfold absV
 cases n1:(a.kind == 2) with
 | true=>rw [show (if sgn a < 0 then neg a else a) = a by rw [odd_neg hva (.inl n1)];split <;> rfl];exact ro_abs_null _ a (by decide +kernel) (by decide +kernel) (by decide +kernel) (by decide +kernel) (by decide +kernel) (by decide +kernel) n1 w
 | false =>
  cases k3:(a.kind == 3) with
  | true=>rw [show (if sgn a < 0 then neg a else a) = a by rw [odd_neg hva (.inr k3)];split <;> rfl];exact ro_abs_nan _ a (by decide +kernel) (by decide +kernel) (by decide +kernel) (by decide +kernel) (by decide +kernel) (by decide +kernel) (by decide +kernel) (by decide +kernel) n1 k3 w
  | false =>
   by_cases hs:sgn a < 0
   · rw [if_pos hs];exact ro_abs_neg _ a hva hs (by decide +kernel) (by decide +kernel) (by decide +kernel) (by decide +kernel) (by decide +kernel) (by decide +kernel) (by decide +kernel) (by decide +kernel) n1 k3 w
   · rw [if_neg hs];exact ro_abs_pos _ a hs (by decide +kernel) (by decide +kernel) (by decide +kernel) (by decide +kernel) (by decide +kernel) (by decide +kernel) (by decide +kernel) (by decide +kernel) n1 k3 w
theorem rone_floor (a:Vl) (hva:IsV a) (w:World):Calls Tryz.prog 80 #[.string ⟨#[102,108,111,111,114]⟩,vlV a] w fun e w'=>TwoR (floorV a) w e w':=by
 unfold TwoR
 unfold floorV
 cases n1:(a.kind == 2) with
 | true=>rw [if_neg (by intro e;rw [e] at n1;cases n1)];exact ro_floor_null _ a (by decide +kernel) (by decide +kernel) (by decide +kernel) (by decide +kernel) (by decide +kernel) (by decide +kernel) (by decide +kernel) n1 w
 | false =>
  cases k3:(a.kind == 3) with
  | true=>rw [if_neg (by intro e;rw [e] at k3;cases k3)];exact ro_floor_nan _ a (by decide +kernel) (by decide +kernel) (by decide +kernel) (by decide +kernel) (by decide +kernel) (by decide +kernel) (by decide +kernel) (by decide +kernel) n1 k3 w
  | false =>
   cases k1:(a.kind == 1) with
   | false=>rw [if_neg (by intro e;simp [e] at k1)];exact ro_floor_odd _ a k1 (by decide +kernel) (by decide +kernel) (by decide +kernel) (by decide +kernel) (by decide +kernel) (by decide +kernel) (by decide +kernel) (by decide +kernel) n1 k3 w
   | true =>
    have hk:=eq_of_beq k1
    rw [if_pos hk]
    obtain ⟨h1,h2⟩:-1000000000000000 ≤ a.n∧a.n ≤ 1000000000000000:=by rcases hva with ⟨_,h⟩ | ⟨h,_⟩;exact h;omega
    by_cases hs:a.n.tmod 1000 < 0
    · rw [← (floor_num a.n h1 h2).1 hs];exact ro_floor_neg _ a h1 h2 hs k1 (by decide +kernel) (by decide +kernel) (by decide +kernel) (by decide +kernel) (by decide +kernel) (by decide +kernel) (by decide +kernel) (by decide +kernel) n1 k3 w
    · rw [← (floor_num a.n h1 h2).2 hs];exact ro_floor_pos _ a h1 h2 hs k1 (by decide +kernel) (by decide +kernel) (by decide +kernel) (by decide +kernel) (by decide +kernel) (by decide +kernel) (by decide +kernel) (by decide +kernel) n1 k3 w
theorem rone_any (op:ByteArray) (a:Vl) (hva:IsV a) (w:World):Calls Tryz.prog 80 #[.string op,vlV a] w fun e w'=>e = .returned (.tuple #[vlV ((one op a).getD zer),.bool (one op a).isSome])∧Below w.heap.size w w':=by
 by_cases h_minus:op = ⟨#[45]⟩
 · subst h_minus;rw [show one ⟨#[45]⟩ a = some (negV a) by simp [one]];exact rone_minus a hva w
 by_cases h_abs:op = ⟨#[97,98,115]⟩
 · subst h_abs;rw [show one ⟨#[97,98,115]⟩ a = some (absV a) by simp [one]];exact rone_abs a hva w
 by_cases h_floor:op = ⟨#[102,108,111,111,114]⟩
 · subst h_floor;rw [show one ⟨#[102,108,111,111,114]⟩ a = some (floorV a) by simp [one]];exact rone_floor a hva w
 by_cases h_not:op = ⟨#[33]⟩
 · subst h_not;rw [show one ⟨#[33]⟩ a = some (notV a) by simp [one]];exact rone_not a hva w
 by_cases h_isnull:op = ⟨#[105,115,95,110,117,108,108]⟩
 · subst h_isnull;rw [show one ⟨#[105,115,95,110,117,108,108]⟩ a = some (tru (a.kind == 2)) by simp [one]];exact rone_isnull a hva w
 by_cases h_isnan:op = ⟨#[105,115,95,110,97,110]⟩
 · subst h_isnan;rw [show one ⟨#[105,115,95,110,97,110]⟩ a = some (tru (a.kind == 3)) by simp [one]];exact rone_isnan a hva w
 by_cases h_isinf:op = ⟨#[105,115,95,105,110,102]⟩
 · subst h_isinf;rw [show one ⟨#[105,115,95,105,110,102]⟩ a = some (tru (a.kind == 4 || a.kind == 5)) by simp [one]];exact rone_isinf a hva w
 by_cases h_isnum:op = ⟨#[105,115,95,110,117,109,98,101,114]⟩
 · subst h_isnum;rw [show one ⟨#[105,115,95,110,117,109,98,101,114]⟩ a = some (tru (a.kind == 1)) by simp [one]];exact rone_isnum a hva w
 have h2:one op a = none:=by unfold one;rw [if_neg h_minus,if_neg h_abs,if_neg h_floor,if_neg h_not,if_neg h_isnull,if_neg h_isnan,if_neg h_isinf,if_neg h_isnum]
 have hne:∀ s,op ≠ s→(op.toList == s.toList) = false:=fun s h=>by
  cases hh:(op.toList == s.toList) with
  | false=>rfl
  | true=>exact absurd (toList_eq hh) h
 rw [h2]
 exact ro_none op a (by rw [show ([105,115,95,110,117,108,108]:List UInt8) = (⟨#[105,115,95,110,117,108,108]⟩:ByteArray).toList by decide +kernel];exact hne _ h_isnull) (by rw [show ([105,115,95,110,97,110]:List UInt8) = (⟨#[105,115,95,110,97,110]⟩:ByteArray).toList by decide +kernel];exact hne _ h_isnan) (by rw [show ([105,115,95,105,110,102]:List UInt8) = (⟨#[105,115,95,105,110,102]⟩:ByteArray).toList by decide +kernel];exact hne _ h_isinf) (by rw [show ([105,115,95,110,117,109,98,101,114]:List UInt8) = (⟨#[105,115,95,110,117,109,98,101,114]⟩:ByteArray).toList by decide +kernel];exact hne _ h_isnum) (by rw [show ([45]:List UInt8) = (⟨#[45]⟩:ByteArray).toList by decide +kernel];exact hne _ h_minus) (by rw [show ([97,98,115]:List UInt8) = (⟨#[97,98,115]⟩:ByteArray).toList by decide +kernel];exact hne _ h_abs) (by rw [show ([102,108,111,111,114]:List UInt8) = (⟨#[102,108,111,111,114]⟩:ByteArray).toList by decide +kernel];exact hne _ h_floor) (by rw [show ([33]:List UInt8) = (⟨#[33]⟩:ByteArray).toList by decide +kernel];exact hne _ h_not) w
end Go.Proofs.YtdhlfpgibfaimaaGreatDoor
namespace Go.Proofs.YtdhlfpgibfaimaaGreatDoor
open Go.RowKit
theorem rcheck_any (v:Value) (l:List Vl) (w:World) (hv:Vls w v l) (hl:l.length ≤ 1000000000):Calls Tryz.prog 23 #[v] w fun e w'=>e = .returned (.int .i64 (chkE l))∧Below w.heap.size w w':=by
 have hgl:Hid (∀ W,Below w.heap.size w W→Vls W v l):=fun W h=>hv.grow h
 obtain ⟨a,c,hva⟩:=hv.shape
 subst hva
 obtain ⟨n,hn⟩:∃ n,Hid (n = l.length):=⟨_,rfl⟩
 rw [← hn.out] at hl hgl ⊢
 obtain ⟨R,hR⟩:∃ R,Hid (R = chkE l):=⟨_,rfl⟩
 rw [← hR.out]
 clear hv
 go_enter Tryz.func23,Tryz.ntmps23
 go_wp2
 go_loopw [3] (fun i wr=>∃ k:Nat,k ≤ n∧i = .int .i64 k∧Hid (∀ u ∈ l.take k,IsV u)∧Below w.heap.size w wr) (fun i _=>n - (intOf i).toNat)
 case atStart=>exact ⟨0,Nat.zero_le _,rfl,(fun u hu=>by simp at hu),Below.refl _ _⟩
 case round =>
  obtain ⟨k,hk,rfl,hrk,hb⟩:=hrel
  have hz:=hb.size
  by_cases hlt:k < n
  · have hki:(k:Int) < (n:Int):=by omega
    have hltl:k < l.length:=by rw [← hn.out];exact hlt
    obtain ⟨a',c',e,hcs⟩:=hgl.out wr hb
    have ea:a = a'∧n = l.length∧c = c':=by simpa using e
    obtain ⟨rfl,-,rfl⟩:=ea
    rcases hcs with hcs | ⟨b,o,rfl,hcs⟩
    · rw [hcs] at hltl;simp at hltl
    obtain ⟨x0,x1⟩:=hcs k hltl
    clear hcs e
    have hu:=fun W=>ris_any (l.getD k zer) W
    have htk:Hid (l.take (k + 1) = l.take k ++ [l.getD k zer]):=take_getD l k hltl
    have hmem:Hid (l.getD k zer ∈ l):=getD_mem l k hltl
    generalize l.getD k zer = u at *
    clear hgl
    cases hi:isB u
    · have hR2:Hid (R = 80):=by
       have:¬ ∀ v ∈ l,IsV v:=fun h=>by
        have:=isB_of (h u hmem.out)
        rw [hi] at this;cases this
       have h2:=hR.out
       rw [chkE,if_neg this] at h2
       exact h2
      rw [hi] at hu
      unfold vlV at hu
      go_wp2_with (go_at_call 54;refine (hu _).mono ?_;rintro e w2 ⟨rfl,hb2⟩)
      go_ret
      exact ⟨by rw [hR2.out];rfl,hb.trans (hb2.mono hb.size)⟩
    · rw [hi] at hu
      have hvu:IsV u:=of_decide_eq_true hi
      have hnew:Hid (∀ y ∈ l.take (k + 1),IsV y):=by
       rw [htk.out]
       intro y hy
       rcases List.mem_append.1 hy with h | h
       · exact hrk.out y h
       · rw [List.mem_singleton.1 h];exact hvu
      clear hvu
      unfold vlV at hu
      go_wp2_with (go_at_call 54;refine (hu _).mono ?_;rintro e w2 ⟨rfl,hb2⟩)
      go_roundw
      case rel=>exact ⟨k + 1,by omega,by go_num,hnew,hb.trans (hb2.mono hb.size)⟩
      case measure=>simp [intOf];omega
  · obtain rfl:k = n:=by omega
    have hki:¬ (k:Int) < (k:Int):=by omega
    have hR2:Hid (R = 0):=by
     have h3:=hrk.out
     rw [List.take_of_length_le (by rw [← hn.out];omega)] at h3
     have h2:=hR.out
     rw [chkE,if_pos h3] at h2
     exact h2
    clear hgl
    go_wp2
    go_ret
    exact ⟨by rw [hR2.out];rfl,hb⟩
theorem VlAt.other {w:World} {x y:Nat} {v:Vl} {a b:Value} (h:VlAt w x v) (hne:x ≠ y):VlAt ((w.setCell ⟨y,0,none⟩ a).setCell ⟨y,1,none⟩ b) x v:=by
 unfold VlAt at *
 have hk:∀ (W:World) (i:Nat) (u:Value),(W.setCell ⟨y,i,none⟩ u).heap[x]? = W.heap[x]?:=fun W i u=>by
  unfold World.setCell
  rw [Array.getElem?_modify,if_neg (Ne.symm hne)]
 rw [hk,hk]
 exact h
theorem rdo_bad (op:ByteArray) (a:Option Addr) (n c:Nat) (w:World) (hc:∀ W,Below w.heap.size w W→Calls Tryz.prog 23 #[.slice a n c] W fun e w'=>e = .returned (.int .i64 80)∧Below W.heap.size W w') :
 Calls Tryz.prog 55 #[.string op,.slice a n c] w fun e w'=>e = .returned (.tuple #[vlV zer,.int .i64 80])∧Below w.heap.size w w':=by
 have hr:VlAt (w.alloc (.cells #[.int .i64 0,.int .i64 0] 24)) w.heap.size zer:=vlNew w zer
 replace hc:=hc _ (bW0 w (.cells #[.int .i64 0,.int .i64 0] 24))
 go_enter Tryz.func55,Tryz.ntmps55
 go_wp2_with (first|(go_at_call 23;refine hc.mono ?_;rintro e w2 ⟨rfl,hb2⟩;obtain ⟨r0,r1⟩:=(hr.grow hb2).cells;obtain ⟨rf0,rf1⟩:=(hr.grow hb2).frozen))
 exact ret_cell2 Tryz.results55 rfl (vlSet (v:=zer) (hr.grow hb2):VlAt _ _ zer) rfl ⟨rfl,belTwo _ _ ((bW0 w _).trans (hb2.mono (by simp))) (Nat.le_refl _)⟩
theorem rdo_len (op:ByteArray) (a:Option Addr) (n c:Nat) (w:World) (h1:n ≠ 1) (h2:n ≠ 2) (hc:∀ W,Below w.heap.size w W→Calls Tryz.prog 23 #[.slice a n c] W fun e w'=>e = .returned (.int .i64 0)∧Below W.heap.size W w') :
 Calls Tryz.prog 55 #[.string op,.slice a n c] w fun e w'=>e = .returned (.tuple #[vlV zer,.int .i64 2])∧Below w.heap.size w w':=by
 have hr:VlAt (w.alloc (.cells #[.int .i64 0,.int .i64 0] 24)) w.heap.size zer:=vlNew w zer
 replace hc:=hc _ (bW0 w (.cells #[.int .i64 0,.int .i64 0] 24))
 have g1:((n:Int) == 1) = false:=by simp;omega
 have g2:((n:Int) == 2) = false:=by simp;omega
 clear h1 h2
 go_enter Tryz.func55,Tryz.ntmps55
 go_wp2_with (first|(go_at_call 23;refine hc.mono ?_;rintro e w2 ⟨rfl,hb2⟩;obtain ⟨r0,r1⟩:=((hr.grow hb2).alloc (.cells #[.int .i64 0,.int .i64 0] 24)).cells;obtain ⟨rf0,rf1⟩:=((hr.grow hb2).alloc (.cells #[.int .i64 0,.int .i64 0] 24)).frozen))
 have hb3:=(((bW0 w _).trans (hb2.mono (by simp))).alloc (Nat.le_trans (by simp) hb2.size) (.cells #[.int .i64 0,.int .i64 0] 24):Below w.heap.size w (w2.alloc (.cells #[.int .i64 0,.int .i64 0] 24)))
 exact ret_cell2 Tryz.results55 rfl (vlSet (v:=zer) ((hr.grow hb2).alloc _):VlAt _ _ zer) rfl ⟨rfl,belTwo _ _ hb3 (Nat.le_refl _)⟩
theorem vls_at {w:World} {a:Option Addr} {n c:Nat} {l:List Vl} (h:Vls w (.slice a n c) l) (hn:0 < l.length):∃ b o,a = some ⟨b,o,none⟩∧∀ t,t < l.length→VAt w b (o + t * 2) (l.getD t zer):=by
 obtain ⟨a',c',e,hcs⟩:=h
 injection e with e1 e2 e3
 subst e1
 rcases hcs with h0 | ⟨b,o,rfl,hcs⟩
 · rw [h0] at hn;simp at hn
 · exact ⟨b,o,rfl,hcs⟩
theorem rdo_one_t (op:ByteArray) (g o c:Nat) (a:Vl) (R:Vl) (w:World) (hat:VAt w g o a) (hR:∀ W:World,Calls Tryz.prog 80 #[.string op,.agg #[.int .i64 a.kind,.int .i64 a.n]] W fun e w'=>e = .returned (.tuple #[.agg #[.int .i64 R.kind,.int .i64 R.n],.bool true])∧Below W.heap.size W w') (hc:∀ W,Below w.heap.size w W→Calls Tryz.prog 23 #[.slice (some ⟨g,o,none⟩) 1 c] W fun e w'=>e = .returned (.int .i64 0)∧Below W.heap.size W w') :
 Calls Tryz.prog 55 #[.string op,.slice (some ⟨g,o,none⟩) 1 c] w fun e w'=>e = .returned (.tuple #[vlV R,.int .i64 0])∧Below w.heap.size w w':=by
 have hr:VlAt (w.alloc (.cells #[.int .i64 0,.int .i64 0] 24)) w.heap.size zer:=vlNew w zer
 replace hc:=hc _ (bW0 w (.cells #[.int .i64 0,.int .i64 0] 24))
 have hcell:Hid (∀ W,Below w.heap.size w W→VAt W g o a):=fun W h=>hat.keep (.of_below h)
 clear hat
 go_enter Tryz.func55,Tryz.ntmps55
 go_wp2_with (first|(go_at_call 23;refine hc.mono ?_;rintro e w2 ⟨rfl,hb2⟩;have hb3:=(((bW0 w _).trans (hb2.mono (by simp))).alloc (Nat.le_trans (by simp) hb2.size) (.cells #[.int .i64 0,.int .i64 0] 24):Below w.heap.size w (w2.alloc (.cells #[.int .i64 0,.int .i64 0] 24)));have hb1:=((bW0 w _).trans (hb2.mono (by simp)):Below w.heap.size w w2);have hne:w.heap.size ≠ w2.heap.size:=(by have:=hb2.size;simp at this;omega);have hne':w2.heap.size ≠ w.heap.size:=Ne.symm hne;obtain ⟨x0,x1⟩:=hcell.out w2 hb1;obtain ⟨z0,z1⟩:=hcell.out _ hb3;obtain ⟨r0,r1⟩:=(hr.grow hb2).cells)|(go_at_call 80;refine (hR _).mono ?_;rintro e w4 ⟨rfl,hb4⟩;have hr4:=(hr.grow hb2).alloc (.cells #[.int .i64 0,.int .i64 0] 24) |>.grow hb4;obtain ⟨r0,r1⟩:=hr4.cells;obtain ⟨rf0,rf1⟩:=hr4.frozen;have ht4:=(vlNew w2 zer:VlAt (w2.alloc (.cells #[.int .i64 0,.int .i64 0] 24)) w2.heap.size zer).grow hb4;obtain ⟨t0,t1⟩:=ht4.cells;obtain ⟨tf0,tf1⟩:=ht4.frozen;have hb5:=hb3.trans (hb4.mono hb3.size)))
 all_goals exact ret_cell2 Tryz.results55 rfl (vlSet (k:=R.kind) (n:=R.n) (hr4.other hne):VlAt _ _ R) rfl ⟨rfl,belTwo _ _ (belTwo _ _ hb5 hb1.size) (Nat.le_refl _)⟩
theorem rdo_one_f (op:ByteArray) (g o c:Nat) (a:Vl) (R:Vl) (w:World) (hat:VAt w g o a) (hR:∀ W:World,Calls Tryz.prog 80 #[.string op,.agg #[.int .i64 a.kind,.int .i64 a.n]] W fun e w'=>e = .returned (.tuple #[.agg #[.int .i64 R.kind,.int .i64 R.n],.bool false])∧Below W.heap.size W w') (hc:∀ W,Below w.heap.size w W→Calls Tryz.prog 23 #[.slice (some ⟨g,o,none⟩) 1 c] W fun e w'=>e = .returned (.int .i64 0)∧Below W.heap.size W w') :
 Calls Tryz.prog 55 #[.string op,.slice (some ⟨g,o,none⟩) 1 c] w fun e w'=>e = .returned (.tuple #[vlV zer,.int .i64 2])∧Below w.heap.size w w':=by
 have hr:VlAt (w.alloc (.cells #[.int .i64 0,.int .i64 0] 24)) w.heap.size zer:=vlNew w zer
 replace hc:=hc _ (bW0 w (.cells #[.int .i64 0,.int .i64 0] 24))
 have hcell:Hid (∀ W,Below w.heap.size w W→VAt W g o a):=fun W h=>hat.keep (.of_below h)
 clear hat
 go_enter Tryz.func55,Tryz.ntmps55
 go_wp2_with (first|(go_at_call 23;refine hc.mono ?_;rintro e w2 ⟨rfl,hb2⟩;have hb3:=(((bW0 w _).trans (hb2.mono (by simp))).alloc (Nat.le_trans (by simp) hb2.size) (.cells #[.int .i64 0,.int .i64 0] 24):Below w.heap.size w (w2.alloc (.cells #[.int .i64 0,.int .i64 0] 24)));have hb1:=((bW0 w _).trans (hb2.mono (by simp)):Below w.heap.size w w2);have hne:w.heap.size ≠ w2.heap.size:=(by have:=hb2.size;simp at this;omega);have hne':w2.heap.size ≠ w.heap.size:=Ne.symm hne;obtain ⟨x0,x1⟩:=hcell.out w2 hb1;obtain ⟨z0,z1⟩:=hcell.out _ hb3;obtain ⟨r0,r1⟩:=(hr.grow hb2).cells)|(go_at_call 80;refine (hR _).mono ?_;rintro e w4 ⟨rfl,hb4⟩;have hr4:=(hr.grow hb2).alloc (.cells #[.int .i64 0,.int .i64 0] 24) |>.grow hb4;obtain ⟨r0,r1⟩:=hr4.cells;obtain ⟨rf0,rf1⟩:=hr4.frozen;have ht4:=(vlNew w2 zer:VlAt (w2.alloc (.cells #[.int .i64 0,.int .i64 0] 24)) w2.heap.size zer).grow hb4;obtain ⟨t0,t1⟩:=ht4.cells;obtain ⟨tf0,tf1⟩:=ht4.frozen;have hb5:=hb3.trans (hb4.mono hb3.size)))
 all_goals exact ret_cell2 Tryz.results55 rfl (vlSet (k:=zer.kind) (n:=zer.n) (hr4.other hne):VlAt _ _ zer) rfl ⟨rfl,belTwo _ _ (belTwo _ _ hb5 hb1.size) (Nat.le_refl _)⟩
theorem rdo_two_t (op:ByteArray) (g o c:Nat) (a b:Vl) (R:Vl) (w:World) (hat:VAt w g o a) (hat2:VAt w g (o + 2) b) (hR:∀ W:World,Calls Tryz.prog 81 #[.string op,.agg #[.int .i64 a.kind,.int .i64 a.n],.agg #[.int .i64 b.kind,.int .i64 b.n]] W fun e w'=>e = .returned (.tuple #[.agg #[.int .i64 R.kind,.int .i64 R.n],.bool true])∧Below W.heap.size W w') (hc:∀ W,Below w.heap.size w W→Calls Tryz.prog 23 #[.slice (some ⟨g,o,none⟩) 2 c] W fun e w'=>e = .returned (.int .i64 0)∧Below W.heap.size W w') :
 Calls Tryz.prog 55 #[.string op,.slice (some ⟨g,o,none⟩) 2 c] w fun e w'=>e = .returned (.tuple #[vlV R,.int .i64 0])∧Below w.heap.size w w':=by
 have hr:VlAt (w.alloc (.cells #[.int .i64 0,.int .i64 0] 24)) w.heap.size zer:=vlNew w zer
 replace hc:=hc _ (bW0 w (.cells #[.int .i64 0,.int .i64 0] 24))
 have hcell:Hid (∀ W,Below w.heap.size w W→VAt W g o a∧VAt W g (o + 2) b):=fun W h=>⟨hat.keep (.of_below h),hat2.keep (.of_below h)⟩
 clear hat hat2
 go_enter Tryz.func55,Tryz.ntmps55
 go_wp2_with (first|(go_at_call 23;refine hc.mono ?_;rintro e w2 ⟨rfl,hb2⟩;have hb3:=(((bW0 w _).trans (hb2.mono (by simp))).alloc (Nat.le_trans (by simp) hb2.size) (.cells #[.int .i64 0,.int .i64 0] 24):Below w.heap.size w (w2.alloc (.cells #[.int .i64 0,.int .i64 0] 24)));have hb1:=((bW0 w _).trans (hb2.mono (by simp)):Below w.heap.size w w2);have hne:w.heap.size ≠ w2.heap.size:=(by have:=hb2.size;simp at this;omega);have hne':w2.heap.size ≠ w.heap.size:=Ne.symm hne;obtain ⟨⟨x0,x1⟩,y0,y1⟩:=hcell.out w2 hb1;obtain ⟨⟨z0,z1⟩,v0,v1⟩:=hcell.out _ hb3;obtain ⟨r0,r1⟩:=(hr.grow hb2).cells))
 go_region_with (first|(go_at_call 81;refine (hR _).mono ?_;rintro e w4 ⟨rfl,hb4⟩;have hr4:=((hr.grow hb2).alloc (.cells #[.int .i64 0,.int .i64 0] 24)).drew |>.grow hb4;obtain ⟨r0,r1⟩:=hr4.cells;obtain ⟨rf0,rf1⟩:=hr4.frozen;have ht4:=(vlNew w2 zer:VlAt (w2.alloc (.cells #[.int .i64 0,.int .i64 0] 24)) w2.heap.size zer).drew.grow hb4;obtain ⟨t0,t1⟩:=ht4.cells;obtain ⟨tf0,tf1⟩:=ht4.frozen;have hb5:=hb3.drew.trans (hb4.mono hb3.drew.size)))
 all_goals go_wp2
 all_goals exact ret_cell2 Tryz.results55 rfl (vlSet (k:=R.kind) (n:=R.n) (hr4.other hne):VlAt _ _ R) rfl ⟨rfl,belTwo _ _ (belTwo _ _ hb5 hb1.size) (Nat.le_refl _)⟩
theorem rdo_two_f (op:ByteArray) (g o c:Nat) (a b:Vl) (R:Vl) (w:World) (hat:VAt w g o a) (hat2:VAt w g (o + 2) b) (hR:∀ W:World,Calls Tryz.prog 81 #[.string op,.agg #[.int .i64 a.kind,.int .i64 a.n],.agg #[.int .i64 b.kind,.int .i64 b.n]] W fun e w'=>e = .returned (.tuple #[.agg #[.int .i64 R.kind,.int .i64 R.n],.bool false])∧Below W.heap.size W w') (hc:∀ W,Below w.heap.size w W→Calls Tryz.prog 23 #[.slice (some ⟨g,o,none⟩) 2 c] W fun e w'=>e = .returned (.int .i64 0)∧Below W.heap.size W w') :
 Calls Tryz.prog 55 #[.string op,.slice (some ⟨g,o,none⟩) 2 c] w fun e w'=>e = .returned (.tuple #[vlV zer,.int .i64 2])∧Below w.heap.size w w':=by
 have hr:VlAt (w.alloc (.cells #[.int .i64 0,.int .i64 0] 24)) w.heap.size zer:=vlNew w zer
 replace hc:=hc _ (bW0 w (.cells #[.int .i64 0,.int .i64 0] 24))
 have hcell:Hid (∀ W,Below w.heap.size w W→VAt W g o a∧VAt W g (o + 2) b):=fun W h=>⟨hat.keep (.of_below h),hat2.keep (.of_below h)⟩
 clear hat hat2
 go_enter Tryz.func55,Tryz.ntmps55
 go_wp2_with (first|(go_at_call 23;refine hc.mono ?_;rintro e w2 ⟨rfl,hb2⟩;have hb3:=(((bW0 w _).trans (hb2.mono (by simp))).alloc (Nat.le_trans (by simp) hb2.size) (.cells #[.int .i64 0,.int .i64 0] 24):Below w.heap.size w (w2.alloc (.cells #[.int .i64 0,.int .i64 0] 24)));have hb1:=((bW0 w _).trans (hb2.mono (by simp)):Below w.heap.size w w2);have hne:w.heap.size ≠ w2.heap.size:=(by have:=hb2.size;simp at this;omega);have hne':w2.heap.size ≠ w.heap.size:=Ne.symm hne;obtain ⟨⟨x0,x1⟩,y0,y1⟩:=hcell.out w2 hb1;obtain ⟨⟨z0,z1⟩,v0,v1⟩:=hcell.out _ hb3;obtain ⟨r0,r1⟩:=(hr.grow hb2).cells))
 go_region_with (first|(go_at_call 81;refine (hR _).mono ?_;rintro e w4 ⟨rfl,hb4⟩;have hr4:=((hr.grow hb2).alloc (.cells #[.int .i64 0,.int .i64 0] 24)).drew |>.grow hb4;obtain ⟨r0,r1⟩:=hr4.cells;obtain ⟨rf0,rf1⟩:=hr4.frozen;have ht4:=(vlNew w2 zer:VlAt (w2.alloc (.cells #[.int .i64 0,.int .i64 0] 24)) w2.heap.size zer).drew.grow hb4;obtain ⟨t0,t1⟩:=ht4.cells;obtain ⟨tf0,tf1⟩:=ht4.frozen;have hb5:=hb3.drew.trans (hb4.mono hb3.drew.size)))
 all_goals go_wp2
 all_goals exact ret_cell2 Tryz.results55 rfl (vlSet (k:=zer.kind) (n:=zer.n) (hr4.other hne):VlAt _ _ zer) rfl ⟨rfl,belTwo _ _ (belTwo _ _ hb5 hb1.size) (Nat.le_refl _)⟩
theorem rdo_any (op:ByteArray) (v:Value) (l:List Vl) (w:World) (hv:Vls w v l) (hl:l.length ≤ 1000000000) :
 Calls Tryz.prog 55 #[.string op,v] w fun e w'=>e = .returned (.tuple #[vlV (doV op l),.int .i64 (doE op l)])∧Below w.heap.size w w':=by
 obtain ⟨a',c',hva,hvs⟩:=id hv
 have hc:∀ W,Below w.heap.size w W→Calls Tryz.prog 23 #[v] W fun e w'=>e = .returned (.int .i64 (chkE l))∧Below W.heap.size W w':=fun W h=>rcheck_any v l W (hv.grow h) hl
 subst hva
 rcases chk_in l with hz | hz
 · rw [hz] at hc
   have hall:∀ x ∈ l,IsV x:=fun x hx=>by
    unfold chkE at hz
    split at hz
    · rename_i h;exact h x hx
    · cases hz
   clear hl hvs
   rcases l with _ | ⟨x,_ | ⟨y,_ | ⟨z,r⟩⟩⟩
   · have h:=rdo_len op a' 0 c' w (by decide) (by decide) hc
     have e1:doV op [] = zer∧doE op [] = 2:=by simp [doV,doE,hz,ops]
     rw [e1.1,e1.2];exact h
   · have hx:=hall x (by simp)
     obtain ⟨g,o,rfl,hcs⟩:=vls_at hv (by simp)
     have hat:VAt w g o x:=by have:=hcs 0 (by simp);simpa using this
     have hR:=fun W=>rone_any op x hx W
     cases h1:one op x with
     | none =>
      rw [h1] at hR
      have e1:doV op [x] = zer∧doE op [x] = 2:=by simp [doV,doE,hz,ops,h1]
      rw [e1.1,e1.2];exact rdo_one_f op g o c' x zer w hat hR hc
     | some R =>
      rw [h1] at hR
      rw [(do_one hx h1).1,(do_one hx h1).2];exact rdo_one_t op g o c' x R w hat hR hc
   · have hx:=hall x (by simp)
     have hy:=hall y (by simp)
     obtain ⟨g,o,rfl,hcs⟩:=vls_at hv (by simp)
     have hat:VAt w g o x:=by have:=hcs 0 (by simp);simpa using this
     have hat2:VAt w g (o + 2) y:=by have:=hcs 1 (by simp);simpa using this
     have hR:=fun W=>rtwo_any op x y hx hy W
     cases h1:two op x y with
     | none =>
      rw [h1] at hR
      have e1:doV op [x,y] = zer∧doE op [x,y] = 2:=by simp [doV,doE,hz,ops,h1]
      rw [e1.1,e1.2];exact rdo_two_f op g o c' x y zer w hat hat2 hR hc
     | some R =>
      rw [h1] at hR
      rw [(do_two hx hy h1).1,(do_two hx hy h1).2];exact rdo_two_t op g o c' x y R w hat hat2 hR hc
   · have h:=rdo_len op a' (x :: y :: z :: r).length c' w (by simp) (by simp) hc
     have e1:doV op (x :: y :: z :: r) = zer∧doE op (x :: y :: z :: r) = 2:=by simp [doV,doE,hz,ops]
     rw [e1.1,e1.2];exact h
 · rw [hz] at hc
   have h:=rdo_bad op a' l.length c' w hc
   have e1:doV op l = zer∧doE op l = 80:=by simp [doV,doE,hz]
   rw [e1.1,e1.2];exact h
end Go.Proofs.YtdhlfpgibfaimaaGreatDoor
