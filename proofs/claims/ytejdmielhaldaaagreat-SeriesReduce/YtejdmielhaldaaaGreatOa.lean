/- Reduce by min, max and count: the order of the points has no part. -/
import Derived.Test.YtejdmielhaldaaaGreatSgSi
import Derived.Test.YtejdmielhaldaaaGreatSm
namespace Go.Proofs.YtejdmielhaldaaaGreat
set_option linter.unusedVariables false
open Series10
theorem ordy_pn {p : Pn} (h : IsV p.v) (hu : unkB p = false) : Ordy p.v := by
  unfold unkB at hu
  simp only [Bool.or_eq_false_iff, decide_eq_false_iff_not] at hu
  rcases h with ⟨h1, _⟩ | ⟨h1, h2, h3⟩
  · exact ⟨by omega, by omega⟩
  · refine ⟨fun e => hu.1 ?_, fun e => hu.2 ?_⟩ <;> (cases hv : p.v; rw [hv] at e h3; simp only at e h3; rw [e, h3]; rfl)
theorem utP_lt {f : Vl} {p : Pn} (hp : IsV p.v) (hf : IsV f) (op : Ordy p.v) (of : Ordy f) : utP ⟨#[60]⟩ f p = if place p.v < place f then p.v else f := by
  unfold utP
  rw [(do_lt hp hf).1, ltV_place hp hf op of, truB_tru]
  by_cases h : place p.v < place f
  · rw [if_pos h, if_pos (decide_eq_true h)]
  · rw [if_neg h, if_neg (by rw [decide_eq_false h]; decide)]
theorem utP_gt {f : Vl} {p : Pn} (hp : IsV p.v) (hf : IsV f) (op : Ordy p.v) (of : Ordy f) : utP ⟨#[62]⟩ f p = if place f < place p.v then p.v else f := by
  unfold utP
  rw [(do_gt hp hf).1, gtV_place hp hf op of, truB_tru]
  by_cases h : place f < place p.v
  · rw [if_pos h, if_pos (decide_eq_true h)]
  · rw [if_neg h, if_neg (by rw [decide_eq_false h]; decide)]
/-- Values that are neither null nor NaN. -/
def Ords (l : List Pn) : Prop := ∀ p ∈ l, IsV p.v ∧ Ordy p.v
theorem valsP_app (a b : List Pn) : valsP (a ++ b) = valsP a ++ valsP b := by simp [valsP]
theorem Ords.mem {l : List Pn} (h : Ords l) {v : Vl} (hv : v ∈ valsP l) : IsV v ∧ Ordy v := by
  obtain ⟨p, hp, rfl⟩ := List.mem_map.1 hv; exact h p hp
theorem fold_least : ∀ (rest pre : List Pn) (f : Vl), Ords (pre ++ rest) → Least (valsP pre) f → Least (valsP (pre ++ rest)) (rest.foldl (utP ⟨#[60]⟩) f)
  | [], pre, f, _, h => by simpa using h
  | p :: r, pre, f, ho, h => by
    have hf : IsV f ∧ Ordy f := Ords.mem (l := pre) (fun q hq => ho q (List.mem_append.2 (.inl hq))) h.1
    have hp := ho p (by simp)
    have h2 := h.snoc (x := p.v)
    rw [List.foldl_cons, utP_lt hp.1 hf.1 hp.2 hf.2]
    have h3 : Least (valsP (pre ++ [p])) (if place p.v < place f then p.v else f) := by rw [valsP_app]; exact h2
    have := fold_least r (pre ++ [p]) _ (by simpa using ho) h3
    simpa using this
theorem fold_greatest : ∀ (rest pre : List Pn) (f : Vl), Ords (pre ++ rest) → Greatest (valsP pre) f → Greatest (valsP (pre ++ rest)) (rest.foldl (utP ⟨#[62]⟩) f)
  | [], pre, f, _, h => by simpa using h
  | p :: r, pre, f, ho, h => by
    have hf : IsV f ∧ Ordy f := Ords.mem (l := pre) (fun q hq => ho q (List.mem_append.2 (.inl hq))) h.1
    have hp := ho p (by simp)
    have h2 := h.snoc (x := p.v)
    rw [List.foldl_cons, utP_gt hp.1 hf.1 hp.2 hf.2]
    have h3 : Greatest (valsP (pre ++ [p])) (if place f < place p.v then p.v else f) := by rw [valsP_app]; exact h2
    have := fold_greatest r (pre ++ [p]) _ (by simpa using ho) h3
    simpa using this
theorem ut_least {l : List Pn} (h0 : l ≠ []) (ho : Ords l) : Least (valsP l) (utV ⟨#[60]⟩ l) := by
  cases l with
  | nil => exact absurd rfl h0
  | cons p r =>
    have hp := ho p (by simp)
    have h1 : utP ⟨#[60]⟩ p.v p = p.v := by unfold utP; split <;> rfl
    show Least _ ((p :: r).foldl (utP ⟨#[60]⟩) p.v)
    rw [List.foldl_cons, h1]
    exact fold_least r [p] p.v ho ⟨by simp [valsP], fun x hx => by simp [valsP] at hx; rw [hx]; exact Int.le_refl _⟩
theorem ut_greatest {l : List Pn} (h0 : l ≠ []) (ho : Ords l) : Greatest (valsP l) (utV ⟨#[62]⟩ l) := by
  cases l with
  | nil => exact absurd rfl h0
  | cons p r =>
    have hp := ho p (by simp)
    have h1 : utP ⟨#[62]⟩ p.v p = p.v := by unfold utP; split <;> rfl
    show Greatest _ ((p :: r).foldl (utP ⟨#[62]⟩) p.v)
    rw [List.foldl_cons, h1]
    exact fold_greatest r [p] p.v ho ⟨by simp [valsP], fun x hx => by simp [valsP] at hx; rw [hx]; exact Int.le_refl _⟩
theorem ords_of {l : List Pn} (hv : ∀ p ∈ l, IsV p.v) (hu : l.any unkB = false) : Ords l := fun p hp => ⟨hv p hp, ordy_pn (hv p hp) (by
  cases h : unkB p with
  | false => rfl
  | true => rw [List.any_eq_true.2 ⟨p, hp, h⟩] at hu; cases hu)⟩
theorem mem_vals_rev (l : List Pn) (x : Vl) : x ∈ valsP l.reverse ↔ x ∈ valsP l := by simp [valsP]
theorem ut_rev {l : List Pn} (ho : Ords l) : utV ⟨#[60]⟩ l.reverse = utV ⟨#[60]⟩ l ∧ utV ⟨#[62]⟩ l.reverse = utV ⟨#[62]⟩ l := by
  by_cases h0 : l = []
  · subst h0; exact ⟨rfl, rfl⟩
  · have hr : l.reverse ≠ [] := by simpa using h0
    have hor : Ords l.reverse := fun p hp => ho p (by simpa using hp)
    exact ⟨(ut_least hr hor).one (fun x hx => hor.mem hx) (mem_vals_rev l) (ut_least h0 ho), (ut_greatest hr hor).one (fun x hx => hor.mem hx) (mem_vals_rev l) (ut_greatest h0 ho)⟩
/-- The three ways. -/
def Way3 (how : ByteArray) : Prop := how = ⟨#[109, 105, 110]⟩ ∨ how = ⟨#[109, 97, 120]⟩ ∨ how = ⟨#[99, 111, 117, 110, 116]⟩
theorem w_min : ((⟨#[109, 105, 110]⟩ : ByteArray).toList == [99, 111, 117, 110, 116]) = false ∧ ((⟨#[109, 105, 110]⟩ : ByteArray).toList == [108, 97, 115, 116]) = false ∧ ((⟨#[109, 105, 110]⟩ : ByteArray).toList == [109, 105, 110]) = true := by decide +kernel
theorem w_max : ((⟨#[109, 97, 120]⟩ : ByteArray).toList == [99, 111, 117, 110, 116]) = false ∧ ((⟨#[109, 97, 120]⟩ : ByteArray).toList == [108, 97, 115, 116]) = false ∧ ((⟨#[109, 97, 120]⟩ : ByteArray).toList == [109, 105, 110]) = false ∧ ((⟨#[109, 97, 120]⟩ : ByteArray).toList == [109, 97, 120]) = true := by decide +kernel
theorem w_cnt : ((⟨#[99, 111, 117, 110, 116]⟩ : ByteArray).toList == [99, 111, 117, 110, 116]) = true := by decide +kernel
theorem red_min (l : List Pn) : redV ⟨#[109, 105, 110]⟩ l = if l.length = 0 then nul else if l.any unkB = true then nan else utV ⟨#[60]⟩ l := by
  unfold redV
  rw [w_min.1, w_min.2.1, w_min.2.2]
  rfl
theorem red_max (l : List Pn) : redV ⟨#[109, 97, 120]⟩ l = if l.length = 0 then nul else if l.any unkB = true then nan else utV ⟨#[62]⟩ l := by
  unfold redV
  rw [w_max.1, w_max.2.1, w_max.2.2.1, w_max.2.2.2]
  rfl
theorem red_cnt (l : List Pn) : redV ⟨#[99, 111, 117, 110, 116]⟩ l = num (1000 * l.length) := by
  unfold redV
  rw [w_cnt]
  rfl
theorem red_rev {how : ByteArray} (hw : Way3 how) {l : List Pn} (hv : ∀ p ∈ l, IsV p.v) : redV how l.reverse = redV how l := by
  have hu : l.reverse.any unkB = l.any unkB := by simp
  rcases hw with rfl | rfl | rfl
  · rw [red_min, red_min, List.length_reverse, hu]
    cases hc : l.any unkB with
    | true => rfl
    | false => rw [(ut_rev (ords_of hv hc)).1]
  · rw [red_max, red_max, List.length_reverse, hu]
    cases hc : l.any unkB with
    | true => rfl
    | false => rw [(ut_rev (ords_of hv hc)).2]
  · rw [red_cnt, red_cnt, List.length_reverse]
theorem redE_rev (how : ByteArray) (l : List Pn) : redE how l.reverse = redE how l := by
  unfold redE chkE
  rw [List.length_reverse]
  have : (∀ v ∈ valsP l.reverse, IsV v) ↔ ∀ v ∈ valsP l, IsV v := forall_congr' fun v => by rw [mem_vals_rev]
  simp only [this]
theorem redE_vals {how : ByteArray} {l : List Pn} (h : redE how l = 0) : ∀ p ∈ l, IsV p.v := by
  unfold redE at h
  split at h
  · cases h
  · split at h
    · cases h
    · split at h
      · rename_i h3
        unfold chkE at h3
        split at h3
        · rename_i h4; exact fun p hp => h4 _ (List.mem_map.2 ⟨p, hp, rfl⟩)
        · cases h3
      · cases h
theorem reduV_rev {how : ByteArray} (hw : Way3 how) (strict : Bool) (l : List Pn) : reduV how strict l.reverse = reduV how strict l := by
  unfold reduV
  rw [redE_rev]
  split
  · rename_i h
    have hv := redE_vals h
    cases strict with
    | true => rw [if_pos rfl, if_pos rfl]; exact red_rev hw hv
    | false =>
      rw [if_neg (by decide), if_neg (by decide)]
      have : knownL l.reverse = (knownL l).reverse := by simp [knownL]
      rw [this]
      exact red_rev hw fun p hp => hv p (List.mem_filter.1 hp).1
  · rfl
end Go.Proofs.YtejdmielhaldaaaGreat
