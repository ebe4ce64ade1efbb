/- Reduce of points in two parts: sum, count, min. -/
import Derived.Test.YtejdmielhaldaaaGreatOa
namespace Go.Proofs.YtejdmielhaldaaaGreat
set_option linter.unusedVariables false
open Series10
/-- A small number. -/
def Sm (p : Pn) : Prop := p.v.kind = 1 ∧ -1000000000 ≤ p.v.n ∧ p.v.n ≤ 1000000000
def sumN (l : List Pn) : Int := (l.map fun p => p.v.n).sum
theorem Sm.isV {p : Pn} (h : Sm p) : IsV p.v := .inl ⟨h.1, by have := h.2.1; omega, by have := h.2.2; omega⟩
theorem Sm.unk {p : Pn} (h : Sm p) : unkB p = false := by
  unfold unkB
  have h1 : p.v ≠ nul := fun e => by have := h.1; rw [e] at this; exact absurd this (by decide)
  have h2 : p.v ≠ nan := fun e => by have := h.1; rw [e] at this; exact absurd this (by decide)
  rw [decide_eq_false h1, decide_eq_false h2]; rfl
theorem Sm.eta {p : Pn} (h : Sm p) : p.v = ⟨1, p.v.n⟩ := by
  have := h.1
  cases hv : p.v
  rw [hv] at this
  simp only at this
  rw [this]
theorem sum_cons (p : Pn) (l : List Pn) : sumN (p :: l) = p.v.n + sumN l := by simp [sumN]
theorem sum_app (a b : List Pn) : sumN (a ++ b) = sumN a + sumN b := by simp [sumN]
theorem sum_small : ∀ (l : List Pn), (∀ p ∈ l, Sm p) → -(1000000000 * (l.length : Int)) ≤ sumN l ∧ sumN l ≤ 1000000000 * (l.length : Int)
  | [], _ => by simp [sumN]
  | p :: r, h => by
    have ih := sum_small r fun q hq => h q (List.mem_cons_of_mem _ hq)
    have hp := (h p (by simp)).2
    rw [sum_cons, List.length_cons]
    constructor <;> push_cast <;> omega
theorem num_small {n : Int} (h1 : -1000000000000000 ≤ n) (h2 : n ≤ 1000000000000000) : num n = ⟨1, n⟩ := by unfold num; rw [if_neg (by omega), if_neg (by omega)]
theorem add_small {x y : Int} (h1 : -1000000000000 ≤ x) (h2 : x ≤ 1000000000000) (h3 : -1000000000000 ≤ y) (h4 : y ≤ 1000000000000) : doV ⟨#[43]⟩ [⟨1, x⟩, ⟨1, y⟩] = ⟨1, x + y⟩ := by
  have hx : IsV ⟨1, x⟩ := .inl ⟨rfl, by show _ ≤ x; omega, by show x ≤ _; omega⟩
  have hy : IsV ⟨1, y⟩ := .inl ⟨rfl, by show _ ≤ y; omega, by show y ≤ _; omega⟩
  rw [(do_add hx hy).1]
  unfold addV nans nulls add
  rw [if_neg (by simp), if_neg (by simp), if_pos ⟨rfl, rfl⟩]
  exact num_small (by show _ ≤ x + y; omega) (by show x + y ≤ _; omega)
theorem fold_sum (r : List Pn) (s : Int) (h : ∀ p ∈ r, Sm p) (h1 : -(1000000000 * (200 - (r.length : Int))) ≤ s) (h2 : s ≤ 1000000000 * (200 - (r.length : Int))) : r.foldl plusV ⟨1, s⟩ = ⟨1, s + sumN r⟩ := by
  induction r generalizing s with
  | nil => simp [sumN]
  | cons p r ih =>
    have hp := h p (by simp)
    rw [List.length_cons] at h1 h2
    push_cast at h1 h2
    have hl : (0 : Int) ≤ (r.length : Int) := by omega
    rw [List.foldl_cons]
    have e1 : plusV ⟨1, s⟩ p = ⟨1, s + p.v.n⟩ := by
      unfold plusV
      rw [hp.eta]
      exact add_small (by omega) (by omega) (by have := hp.2.1; omega) (by have := hp.2.2; omega)
    have h3 := hp.2
    rw [e1, ih _ (fun q hq => h q (List.mem_cons_of_mem _ hq)) (by omega) (by omega), sum_cons, Int.add_assoc]
theorem sumV_small {l : List Pn} (h0 : l ≠ []) (h : ∀ p ∈ l, Sm p) (hl : l.length ≤ 150) : sumV l = ⟨1, sumN l⟩ := by
  cases l with
  | nil => exact absurd rfl h0
  | cons p r =>
    have hp := h p (by simp)
    rw [List.length_cons] at hl
    show r.foldl plusV p.v = _
    rw [hp.eta, fold_sum r _ (fun q hq => h q (List.mem_cons_of_mem _ hq)) (by have := hp.2; omega) (by have := hp.2; omega), sum_cons]
theorem w_sum : ((⟨#[115, 117, 109]⟩ : ByteArray).toList == [99, 111, 117, 110, 116]) = false ∧ ((⟨#[115, 117, 109]⟩ : ByteArray).toList == [108, 97, 115, 116]) = false ∧ ((⟨#[115, 117, 109]⟩ : ByteArray).toList == [109, 105, 110]) = false ∧ ((⟨#[115, 117, 109]⟩ : ByteArray).toList == [109, 97, 120]) = false ∧ ((⟨#[115, 117, 109]⟩ : ByteArray).toList == [115, 117, 109]) = true := by decide +kernel
theorem red_sum (l : List Pn) : redV ⟨#[115, 117, 109]⟩ l = if l.length = 0 then nul else if l.any unkB = true then nan else sumV l := by
  unfold redV
  rw [w_sum.1, w_sum.2.1, w_sum.2.2.1, w_sum.2.2.2.1, w_sum.2.2.2.2]
  rfl
theorem any_unk {l : List Pn} (h : ∀ p ∈ l, Sm p) : l.any unkB = false := by
  rw [List.any_eq_false]
  intro p hp
  rw [(h p hp).unk]
  decide
theorem known_all {l : List Pn} (h : ∀ p ∈ l, Sm p) : knownL l = l := by
  unfold knownL
  rw [List.filter_eq_self]
  intro p hp
  unfold knwB
  rw [(h p hp).unk]; rfl
theorem redE_ok {how : ByteArray} (hw : howB how = true) {l : List Pn} (h : ∀ p ∈ l, Sm p) (hl : l.length ≤ 2000) : redE how l = 0 := by
  unfold redE
  rw [if_neg (by rw [hw]; decide), if_neg (by omega), if_pos]
  unfold chkE
  rw [if_pos]
  intro v hv
  obtain ⟨p, hp, rfl⟩ := List.mem_map.1 hv
  exact (h p hp).isV
theorem reduV_ok {how : ByteArray} (hw : howB how = true) (strict : Bool) {l : List Pn} (h : ∀ p ∈ l, Sm p) (hl : l.length ≤ 2000) : reduV how strict l = redV how l := by
  unfold reduV
  rw [if_pos (redE_ok hw h hl), known_all h]
  split <;> rfl
/-- Sum and count of two parts. -/
theorem parts_two {how : ByteArray} (hh : how = ⟨#[115, 117, 109]⟩ ∨ how = ⟨#[99, 111, 117, 110, 116]⟩) {a b : List Pn} (ha : ∀ p ∈ a, Sm p) (hb : ∀ p ∈ b, Sm p) (a0 : a ≠ []) (b0 : b ≠ []) (la : a.length ≤ 60) (lb : b.length ≤ 60) :
    ∃ x y : Int, reduV how true a = ⟨1, x⟩ ∧ reduV how true b = ⟨1, y⟩ ∧ reduV how false (a ++ b) = ⟨1, x + y⟩ ∧ doV ⟨#[43]⟩ [⟨1, x⟩, ⟨1, y⟩] = ⟨1, x + y⟩ ∧ doE ⟨#[43]⟩ [⟨1, x⟩, ⟨1, y⟩] = 0 ∧ redE how a = 0 ∧ redE how b = 0 ∧ redE how (a ++ b) = 0 := by
  have hab : ∀ p ∈ a ++ b, Sm p := fun p hp => (List.mem_append.1 hp).elim (ha p) (hb p)
  have lab : (a ++ b).length ≤ 120 := by rw [List.length_append]; omega
  have hw : howB how = true := by rcases hh with rfl | rfl <;> decide +kernel
  have ab0 : a ++ b ≠ [] := by simp [a0]
  have la0 : a.length ≠ 0 := by simpa using a0
  have lb0 : b.length ≠ 0 := by simpa using b0
  have lab0 : (a ++ b).length ≠ 0 := by simpa using ab0
  have main : ∀ x y : Int, -1000000000000 ≤ x → x ≤ 1000000000000 → -1000000000000 ≤ y → y ≤ 1000000000000 → redV how a = ⟨1, x⟩ → redV how b = ⟨1, y⟩ → redV how (a ++ b) = ⟨1, x + y⟩ →
      ∃ x y : Int, reduV how true a = ⟨1, x⟩ ∧ reduV how true b = ⟨1, y⟩ ∧ reduV how false (a ++ b) = ⟨1, x + y⟩ ∧ doV ⟨#[43]⟩ [⟨1, x⟩, ⟨1, y⟩] = ⟨1, x + y⟩ ∧ doE ⟨#[43]⟩ [⟨1, x⟩, ⟨1, y⟩] = 0 ∧ redE how a = 0 ∧ redE how b = 0 ∧ redE how (a ++ b) = 0 := fun x y x1 x2 y1 y2 e1 e2 e3 => by
    have hx : IsV ⟨1, x⟩ := .inl ⟨rfl, by show _ ≤ x; omega, by show x ≤ _; omega⟩
    have hy : IsV ⟨1, y⟩ := .inl ⟨rfl, by show _ ≤ y; omega, by show y ≤ _; omega⟩
    exact ⟨x, y, by rw [reduV_ok hw true ha (by omega), e1], by rw [reduV_ok hw true hb (by omega), e2], by rw [reduV_ok hw false hab (by omega), e3], add_small x1 x2 y1 y2, (do_add hx hy).2, redE_ok hw ha (by omega), redE_ok hw hb (by omega), redE_ok hw hab (by omega)⟩
  have sa := sum_small a ha
  have sb := sum_small b hb
  rcases hh with rfl | rfl
  · refine main (sumN a) (sumN b) (by omega) (by omega) (by omega) (by omega) ?_ ?_ ?_
    · rw [red_sum, if_neg la0, any_unk ha, if_neg (by decide), sumV_small a0 ha (by omega)]
    · rw [red_sum, if_neg lb0, any_unk hb, if_neg (by decide), sumV_small b0 hb (by omega)]
    · rw [red_sum, if_neg lab0, any_unk hab, if_neg (by decide), sumV_small ab0 hab (by omega), sum_app]
  · refine main (1000 * a.length) (1000 * b.length) (by omega) (by omega) (by omega) (by omega) ?_ ?_ ?_
    · rw [red_cnt, num_small (by omega) (by omega)]
    · rw [red_cnt, num_small (by omega) (by omega)]
    · rw [red_cnt, List.length_append, num_small (by omega) (by omega)]
      congr 1
      push_cast
      omega
/-- The least of two parts. -/
theorem parts_min {a b : List Pn} (ha : ∀ p ∈ a, Sm p) (hb : ∀ p ∈ b, Sm p) (a0 : a ≠ []) (b0 : b ≠ []) (la : a.length ≤ 60) (lb : b.length ≤ 60) :
    ∃ x y : Int, reduV ⟨#[109, 105, 110]⟩ true a = ⟨1, x⟩ ∧ reduV ⟨#[109, 105, 110]⟩ true b = ⟨1, y⟩ ∧ reduV ⟨#[109, 105, 110]⟩ true (a ++ b) = ⟨1, min x y⟩ := by
  have hab : ∀ p ∈ a ++ b, Sm p := fun p hp => (List.mem_append.1 hp).elim (ha p) (hb p)
  have hw : howB ⟨#[109, 105, 110]⟩ = true := by decide +kernel
  have ab0 : a ++ b ≠ [] := by simp [a0]
  have key : ∀ l : List Pn, l ≠ [] → (∀ p ∈ l, Sm p) → l.length ≤ 2000 → ∃ x : Int, reduV ⟨#[109, 105, 110]⟩ true l = ⟨1, x⟩ ∧ (∃ p ∈ l, p.v.n = x) ∧ ∀ p ∈ l, x ≤ p.v.n := fun l l0 h hl => by
    have hu := any_unk h
    have hL := ut_least l0 (ords_of (fun p hp => (h p hp).isV) hu)
    rw [reduV_ok hw true h hl, red_min, if_neg (by simpa using l0), hu, if_neg (by decide)]
    generalize utV ⟨#[60]⟩ l = v at *
    obtain ⟨p, hp, rfl⟩ := List.mem_map.1 hL.1
    have pl : ∀ q ∈ l, place q.v = q.v.n := fun q hq => by rw [(h q hq).eta]; rfl
    refine ⟨p.v.n, (h p hp).eta, ⟨p, hp, rfl⟩, fun q hq => ?_⟩
    have := hL.2 q.v (List.mem_map.2 ⟨q, hq, rfl⟩)
    rw [pl p hp, pl q hq] at this
    exact this
  obtain ⟨x, e1, ⟨p, hp, hpx⟩, hx⟩ := key a a0 ha (by omega)
  obtain ⟨y, e2, ⟨q, hq, hqy⟩, hy⟩ := key b b0 hb (by omega)
  obtain ⟨z, e3, ⟨r, hr, hrz⟩, hz⟩ := key (a ++ b) ab0 hab (by rw [List.length_append]; omega)
  refine ⟨x, y, e1, e2, ?_⟩
  rw [e3]
  congr 1
  have h1 := hz p (List.mem_append.2 (.inl hp))
  have h2 := hz q (List.mem_append.2 (.inr hq))
  rcases List.mem_append.1 hr with h | h
  · have := hx r h; omega
  · have := hy r h; omega
end Go.Proofs.YtejdmielhaldaaaGreat
