/- Due 16; what Wake tells against what is due. -/
import Derived.Test.YtnbhnnjgnojgbaaMg
import Derived.Test.YtnbhnnjgnojgbaaAr
namespace Go.Proofs.Ytnbhnnjgnojgbaa
set_option linter.unusedVariables false
open Go.RowKit
/-- Due: what is due, sorted. -/
theorem due16 (v : Value) (l : List Jb) (now : Int) (w : World) (hv : Jbs w v l) (hok : ∀ j ∈ l, Ok j) (hl : l.length ≤ 100000) (h0 : -1 ≤ now) (h1 : now ≤ 4398046511104) :
    Calls Try.prog 16 #[.int .i64 now, v] w fun e w' => ∃ y, e = .returned y ∧ OwnS TJ w' w.heap.size y (stbF (dueL now l)) ∧ Below w.heap.size w w' := by
  refine (due_any (fun D => D = stbF (dueL now l)) v l now w hv hok hl h0 h1 ?_).mono ?_
  · intro W u hu hB
    refine (sort21 w.heap.size u _ W hu hB.size (Nat.le_trans (dueL_len now l) hl)).mono ?_
    rintro e w' ⟨rfl, hO, hB2⟩
    exact ⟨rfl, _, rfl, hO, hB.trans hB2⟩
  · rintro e w' ⟨y, D, rfl, rfl, hO, hB⟩
    exact ⟨y, rfl, hO, hB⟩
theorem isB_next {j : Jb} (h : Ok j) {s : Int} (h0 : -1 ≤ s) : isB j s = true ↔ j.pa = false ∧ nextF j j.la ≤ s := by
  have hla : -1 ≤ j.la ∧ j.la ≤ 1099511627776 := ⟨h.2.2.2.2.1, h.2.2.2.2.2⟩
  have hiv : 1 ≤ j.iv ∧ 0 ≤ j.off := ⟨h.1, h.2.2.1⟩
  have hs := slotF_at h h0
  have hi := slotF_in h hla.1 (by omega)
  have key : slotF j j.la < slotF j s ↔ nextF j j.la ≤ s := by
    unfold nextF
    constructor
    · intro hlt
      have hoff : j.off ≤ s := by
        rcases Int.lt_or_le s j.off with hc | hc
        · have : slotF j s = -1 := by unfold slotF; rw [if_pos (Or.inl hc)]
          omega
        · exact hc
      have h1 := (hs.1 hoff).1
      have h2 : (slotF j j.la + 1) * j.iv ≤ slotF j s * j.iv := Int.mul_le_mul_of_nonneg_right (by omega) (by omega)
      omega
    · intro hle
      have h1 := hs.2
      have h4 : (slotF j j.la + 1) * j.iv < (slotF j s + 1) * j.iv := by omega
      have := Int.lt_of_mul_lt_mul_right h4 (by omega)
      omega
  unfold isB
  rw [Bool.and_eq_true, decide_eq_true_eq, key]
  simp
/-- When a job that is not paused is due. -/
def atF (now : Int) (j : Jb) : Int := max now (nextF j j.la)
theorem wk_spec (now : Int) (l : List Jb) : ∀ k, k ≤ l.length →
    ((wkF now (l.take k)).2 = false → (wkF now (l.take k)).1 = 0 ∧ ∀ j ∈ l.take k, j.pa = true) ∧
    ((wkF now (l.take k)).2 = true → (∃ j ∈ l.take k, j.pa = false ∧ atF now j = (wkF now (l.take k)).1) ∧ ∀ j ∈ l.take k, j.pa = false → (wkF now (l.take k)).1 ≤ atF now j)
  | 0, _ => by simp [wkF]
  | k + 1, hk => by
    have ih := wk_spec now l k (by omega)
    have ht := take_getD l jb0 k (show k < l.length by omega)
    rw [wkF_snoc now l k (by omega), ht]
    generalize wkF now (l.take k) = a at *
    generalize l.getD k jb0 = x at *
    obtain ⟨a1, a2⟩ := a
    simp only at ih ⊢
    unfold wkS
    have hmem : ∀ (P : Jb → Prop), (∀ j ∈ l.take k ++ [x], P j) ↔ (∀ j ∈ l.take k, P j) ∧ P x := fun P => by
      constructor
      · intro h; exact ⟨fun j hj => h j (List.mem_append.2 (.inl hj)), h x (by simp)⟩
      · rintro ⟨h1, h2⟩ j hj
        rcases List.mem_append.1 hj with h | h
        · exact h1 j h
        · rw [List.mem_singleton.1 h]; exact h2
    by_cases hp : x.pa = true
    · rw [if_pos hp]
      refine ⟨fun h => ⟨(ih.1 h).1, (hmem _).2 ⟨(ih.1 h).2, hp⟩⟩, fun h => ?_⟩
      obtain ⟨⟨j, hj, hj2⟩, hall⟩ := ih.2 h
      exact ⟨⟨j, List.mem_append.2 (.inl hj), hj2⟩, (hmem _).2 ⟨hall, fun h2 => by rw [hp] at h2; cases h2⟩⟩
    · rw [if_neg hp]
      have hpf : x.pa = false := by simpa using hp
      split
      · rename_i hc
        refine ⟨fun h => (by simp at h), fun _ => ⟨⟨x, by simp, hpf, rfl⟩, (hmem _).2 ⟨fun j hj hjp => ?_, fun _ => Int.le_refl _⟩⟩⟩
        cases a2 with
        | false => exact absurd ((ih.1 rfl).2 j hj) (by rw [hjp]; decide)
        | true =>
          have h1 := (ih.2 rfl).2 j hj hjp
          simp at hc
          simp only
          omega
      · rename_i hc
        have ha2 : a2 = true := by
          cases a2 with
          | true => rfl
          | false => exact absurd (by simp) hc
        subst ha2
        refine ⟨fun h => (by simp at h), fun _ => ?_⟩
        obtain ⟨⟨j, hj, hj2⟩, hall⟩ := ih.2 rfl
        refine ⟨⟨j, List.mem_append.2 (.inl hj), hj2⟩, (hmem _).2 ⟨hall, fun _ => ?_⟩⟩
        simp at hc
        unfold atF
        simp only
        omega
theorem wk_all (now : Int) (l : List Jb) : ((wkF now l).2 = false → (wkF now l).1 = 0 ∧ ∀ j ∈ l, j.pa = true) ∧ ((wkF now l).2 = true → (∃ j ∈ l, j.pa = false ∧ atF now j = (wkF now l).1) ∧ ∀ j ∈ l, j.pa = false → (wkF now l).1 ≤ atF now j) := by
  have := wk_spec now l l.length (Nat.le_refl _)
  rwa [List.take_of_length_le (Nat.le_refl _)] at this
theorem wk_due {now : Int} {l : List Jb} (hok : ∀ j ∈ l, Ok j) (h0 : 0 ≤ now) (h1 : now ≤ 549755813888) (h2 : (wkF now l).2 = true) :
    now ≤ (wkF now l).1 ∧ (wkF now l).1 ≤ 1099511800000 ∧ (dueL (wkF now l).1 l).length ≠ 0 ∧ (now < (wkF now l).1 → (dueL ((wkF now l).1 - 1) l).length = 0) := by
  obtain ⟨⟨j, hj, hjp, hja⟩, hall⟩ := (wk_all now l).2 h2
  have hoj := hok j hj
  have hla : -1 ≤ j.la ∧ j.la ≤ 1099511627776 := ⟨hoj.2.2.2.2.1, hoj.2.2.2.2.2⟩
  have hn := nextF_in hoj hla.1 (by omega)
  unfold atF at hja hall
  generalize (wkF now l).1 = t at *
  have ht : now ≤ t ∧ nextF j j.la ≤ t := by omega
  refine ⟨ht.1, by omega, ?_, ?_⟩
  · intro hz
    have hm : j ∈ dueL t l := List.mem_filter.2 ⟨hj, (isB_next hoj (by omega)).2 ⟨hjp, ht.2⟩⟩
    rw [List.length_eq_zero_iff.1 hz] at hm
    cases hm
  · intro hlt
    rw [List.length_eq_zero_iff, dueL, List.filter_eq_nil_iff]
    intro i hi hb
    obtain ⟨q1, q2⟩ := (isB_next (hok i hi) (by omega)).1 hb
    have := hall i hi q1
    omega
end Go.Proofs.Ytnbhnnjgnojgbaa
