/- What ValueSigns' walk wants: the document's Check of one value; what its end compares. -/
import Derived.Test.YtfbiaffdfolbgabGreatDoorVa3
namespace Go.Proofs.YtfbiaffdfolbgabGreatDoor
set_option linter.unusedVariables false
open Go.RowKit
theorem rc1 (a : Vl) (W : World) : Calls Tryz.prog 4 #[.slice (some ⟨W.heap.size, 0, none⟩) 1 1] (W.alloc (.cells #[.int .i64 a.kind, .int .i64 a.n] 23)) fun e w' => e = .returned (.int .i64 (chkE [a])) ∧ Below W.heap.size W w' :=
  (rcheck_any _ [a] _ (row1V W a) (by simp)).mono fun e w' ⟨h, hb⟩ => ⟨h, (bW0 W _).trans (hb.mono (bW0 W _).size)⟩
theorem rc1' (a : Vl) (w : World) (o : Obj) : Calls Tryz.prog 4 #[.slice (some ⟨w.heap.size + 1, 0, none⟩) 1 1] ((w.alloc o).alloc (.cells #[.int .i64 a.kind, .int .i64 a.n] 23)) fun e w' => e = .returned (.int .i64 (chkE [a])) ∧ Below (w.alloc o).heap.size (w.alloc o) w' := by
  have hsz : (w.alloc o).heap.size = w.heap.size + 1 := World.size_alloc w o
  have h := rc1 a (w.alloc o)
  rw [hsz] at h ⊢
  exact h
theorem chk1 {v : Vl} (h : chkE [v] = 0) : IsV v := by
  by_cases h2 : ∀ u ∈ [v], IsV u
  · exact h2 v (by simp)
  · rw [chkE, if_neg h2] at h; omega
theorem ends {a M S F : Vl} (hva : IsV a) (eM : M = negV a) (eS : S = absV a) (eF : F = floorV a) :
    ((a.kind != 1) = false ∧ (F.n ≤ a.n ∧ a.n - F.n < 1000 ∧ Int.tmod F.n 1000 = 0 ∧ IntKind.i64.wrap (a.n - F.n) = a.n - F.n) ∧ ((a = S ∧ 0 ≤ a.n) ∨ (M = S ∧ 0 ≤ M.n ∧ (M.kind == a.kind) = true ∧ (M.n == a.n) = false))) ∨
    ((a.kind != 1) = true ∧ a = F ∧ (a = S ∨ (a = mns ∧ S = pls ∧ (S.kind == a.kind) = false))) := by
  rcases hva.cases with ⟨n, rfl, h1, h2⟩ | rfl | rfl | rfl | rfl
  · left
    obtain ⟨s1, s2, s3, s4, s5⟩ := signs_num n
    have ef : (floorV ⟨1, n⟩).n = n - n % 1000 := by simp [floorV]
    refine ⟨rfl, ?_, ?_⟩
    · rw [eF]
      refine ⟨s3, s4, by rw [ef]; exact floor_tmod n, ?_⟩
      have e3 : (⟨1, n⟩ : Vl).n - (floorV ⟨1, n⟩).n = n % 1000 := by rw [ef]; show n - _ = _; omega
      rw [e3, IntKind.wrap_i64]; omega
    · by_cases hn : n < 0
      · right
        have e1 : S = M := by
          rw [eS, eM]
          rcases s2 with h | h
          · exfalso
            rw [h] at s1
            have : 0 ≤ n := s1
            omega
          · exact h
        have e2 : M = ⟨1, -n⟩ := by rw [eM]; simp [negV, neg]
        refine ⟨e1.symm, ?_, ?_, ?_⟩
        · rw [e2]; show 0 ≤ -n; omega
        · rw [e2]; rfl
        · rw [e2]; simp; omega
      · left
        refine ⟨?_, by show 0 ≤ n; omega⟩
        symm
        rw [eS, absV]
        have : ¬ sgn ⟨1, n⟩ < 0 := by
          unfold sgn
          by_cases h0 : 0 < n <;> simp [hn, h0]
        rw [if_neg this]
  all_goals
    right
    refine ⟨rfl, (eF.trans rfl).symm, ?_⟩
    first | exact .inl (eS.trans rfl).symm | (right; refine ⟨rfl, eS.trans rfl, ?_⟩; rw [eS]; rfl)
end Go.Proofs.YtfbiaffdfolbgabGreatDoor
