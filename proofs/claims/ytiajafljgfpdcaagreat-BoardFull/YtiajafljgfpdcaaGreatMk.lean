/- repeatsName, Make. -/
import Derived.Test.YtiajafljgfpdcaaGreatSo
namespace Go.Proofs.YtiajafljgfpdcaaGreat
set_option linter.unusedVariables false
open Go.RowKit
open Classical in
noncomputable def repB (l : List Lb) : Bool := decide (¬ Nbr l)
theorem repB_no {l : List Lb} (h : Nbr l) : repB l = false := by simp [repB, h]
theorem repB_yes {l : List Lb} (h : ¬ Nbr l) : repB l = true := by simp [repB, h]
theorem repB_iff {l : List Lb} : repB l = true ↔ ¬ Nbr l := by simp [repB]
def NbrTo (l : List Lb) (k : Nat) : Prop := ∀ j, j + 1 < k → (l.getD j lb0).name ≠ (l.getD (j + 1) lb0).name
set_option maxRecDepth 100000 in
set_option maxHeartbeats 2000000 in
theorem repeatsName_any (v : Value) (l : List Lb) (w : World) (hv : Lbs w v l) (hlen : l.length ≤ 1000000) : Calls Tryz.prog 124 #[v] w fun e w' => e = .returned (.bool (repB l)) ∧ Below w.heap.size w w' := by
  obtain ⟨a, c, rfl⟩ := hv.shape
  replace hv : Hid _ := hv
  go_enter Tryz.func124, Tryz.ntmps124
  go_wp2
  go_loopw [3] (fun i wr => ∃ k d : Nat, 0 < k ∧ (k ≤ l.length ∨ k = 1) ∧ i = .int .i64 k ∧ NbrTo l k ∧ wr = w.drewN d) (fun i _ => l.length - (intOf i).toNat)
  case atStart => exact ⟨1, 0, by omega, .inr rfl, rfl, fun j hj => by omega, rfl⟩
  case round =>
    obtain ⟨k, d, hk0, hk, rfl, hto, rfl⟩ := hrel
    by_cases hlt : k < l.length
    · obtain ⟨j, rfl⟩ : ∃ j, k = j + 1 := ⟨k - 1, by omega⟩
      have hki : ((j + 1 : Nat) : Int) < (l.length : Int) := by omega
      obtain ⟨b, o, rfl, x0, x1⟩ := lb_at hv.out (j + 1) hlt
      obtain ⟨b', o', e, y0, y1⟩ := lb_at hv.out j (by omega)
      cases e
      by_cases hn : (l.getD (j + 1) lb0).name = (l.getD j lb0).name
      · have hR : Hid (repB l = true) := repB_yes fun h => h j hlt hn.symm
        rw [hn] at x0
        clear hn
        generalize (l.getD j lb0).name = s at *
        go_wp2
        go_quiet (fail)
        go_wp2
        go_ret
        exact ⟨by rw [hR.out]; rfl, below_drewN (below_drewN (Below.refl _ _) _) _⟩
      · have hst : NbrTo l (j + 1 + 1) := by
          intro i hi
          by_cases e : i = j
          · subst e; exact fun h => hn h.symm
          · exact hto i (by omega)
        have hne := toList_ne hn
        clear hn
        generalize (l.getD j lb0).name = s at *
        generalize (l.getD (j + 1) lb0).name = t at *
        go_wp2
        go_quiet (fail)
        go_wp2
        refine ⟨⟨j + 1 + 1, _, by omega, .inl (by omega), by go_num, hst, rfl⟩, ?_⟩
        simp [intOf]; omega
    · have hki : ¬ (k : Int) < (l.length : Int) := by omega
      have hR : Hid (repB l = false) := repB_no fun j hj => hto j (by omega)
      go_wp2
      go_ret
      exact ⟨by rw [hR.out]; rfl, below_drewN (Below.refl _ _) _⟩
/-- What Make tells, and where. -/
def MakeR (l : List Lb) (w : World) (e : Ending) (w' : World) : Prop := ∃ u out er, e = .returned (.tuple #[u, .int .i64 er]) ∧ MkQ l out er ∧ OwnL w' w.heap.size u out ∧ Below w.heap.size w w'
theorem lss_one {w : World} {v : Value} {l : List Lb} (hv : Lbs w v l) (ty : TypeId) : Lss (w.alloc (.cells #[v] ty)) (.slice (some ⟨w.heap.size, 0, none⟩) 1 1) [l] := by
  refine ⟨w.heap.size, 0, 1, rfl, fun t ht => ⟨v, ?_, ?_⟩⟩
  · have : t = 0 := by simpa using ht
    subst this
    simp only [World.cell?, heap_new]
    rfl
  · have : t = 0 := by simpa using ht
    subst this
    exact hv.alloc _
set_option maxRecDepth 100000 in
set_option maxHeartbeats 2000000 in
theorem make_any (v : Value) (l : List Lb) (w : World) (hv : Lbs w v l) (hr : LbsR l) (hlen : l.length ≤ 100000) : Calls Tryz.prog 99 #[v] w fun e w' => MakeR l w e w' := by
  obtain ⟨a, c, rfl⟩ := hv.shape
  replace hv : Hid _ := hv
  replace hr : Hid _ := hr
  go_enter Tryz.func99, Tryz.ntmps99
  go_wp2
  go_loopw [9] (fun i wr => ∃ k : Nat, k ≤ l.length ∧ i = .int .i64 k ∧ (∀ x ∈ l.take k, IsLb x) ∧ Below w.heap.size w wr) (fun i _ => l.length - (intOf i).toNat)
  case atStart => exact ⟨0, Nat.zero_le _, rfl, fun x hx => by simp at hx, Below.refl _ _⟩
  case round =>
    obtain ⟨k, hk, rfl, hall, hB⟩ := hrel
    have hBz := hB.size
    by_cases hlt : k < l.length
    · have hki : (k : Int) < (l.length : Int) := by omega
      obtain ⟨b, o, rfl, x0, x1⟩ := lb_at (Sls.grow hv.out hB) k hlt
      have hI := fun W => mayBe_any (l.getD k lb0) W (LbsR.at hr.out hlt)
      cases hlb : lbB (l.getD k lb0) with
      | false =>
        have hQ : MkQ l [] 90 := make_lb hlt (fun h => by rw [lbB_iff.2 h] at hlb; cases hlb)
        rw [hlb] at hI
        clear hlb
        generalize l.getD k lb0 = x at *
        obtain ⟨n, u⟩ := x
        unfold lbV lbO at hI
        simp only at hI x0 x1
        go_wp2_with (first | (go_at_call 122; refine (hI _).mono ?_; rintro e wx ⟨rfl, hwx⟩; subst wx))
        go_ret2
        refine ⟨_, [], 90, rfl, hQ, OwnS.nil _ _, ?_⟩
        exact (hB.alloc hBz _).alloc (by simp; omega) _
      | true =>
        have hst : ∀ x ∈ l.take (k + 1), IsLb x := by
          rw [take_getD l lb0 k hlt]
          intro x hx
          rcases List.mem_append.1 hx with hx | hx
          · exact hall x hx
          · have : x = l.getD k lb0 := by simpa using hx
            rw [this]; exact lbB_iff.1 hlb
        rw [hlb] at hI
        clear hlb
        generalize l.getD k lb0 = x at *
        obtain ⟨n, u⟩ := x
        unfold lbV lbO at hI
        simp only at hI x0 x1
        go_wp2_with (first | (go_at_call 122; refine (hI _).mono ?_; rintro e wx ⟨rfl, hwx⟩; subst wx))
        refine ⟨⟨k + 1, by omega, by go_num, hst, ?_⟩, ?_⟩
        · exact (hB.alloc hBz _).alloc (by simp; omega) _
        · simp [intOf]; omega
    · obtain rfl : k = l.length := by omega
      have hki : ¬ (l.length : Int) < (l.length : Int) := by omega
      rw [List.take_of_length_le (Nat.le_refl _)] at hall
      have hvr := Sls.grow hv.out hB
      have hs := sorted_any _ [l] _ (lss_one hvr 24) (by simp) (by simp [totL]; omega)
      simp only [List.flatten_cons, List.flatten_nil, List.append_nil] at hs
      have hln : (sortL l).length = l.length := (sortL_perm l).length_eq
      have hrep := fun v2 W (h : Lbs W v2 (sortL l)) => repeatsName_any v2 (sortL l) W h (by omega)
      have hBn : Below w.heap.size w (wr.alloc (.cells #[.slice a l.length c] 24)) := hB.alloc hBz _
      by_cases hnb : Nbr (sortL l)
      · have hR := repB_no hnb
        rw [hR] at hrep
        by_cases h16 : 16 < l.length
        · have hQ := make_many hall hnb h16
          have h16i : (16 : Int) < (l.length : Int) := by omega
          clear hnb hR hall
          go_wp2_with (first
            | (go_at_call 123; refine hs.mono ?_; rintro e w1 ⟨v1, rfl, ho1, hb1⟩; obtain ⟨a1, c1, rfl⟩ := ho1.shape; rw [hln] at *)
            | (go_at_call 124; refine (hrep _ _ ho1.sls).mono ?_; rintro e w2 ⟨rfl, hb2⟩))
          go_ret2
          have hB1 := hBn.trans (hb1.mono hBn.size)
          exact ⟨_, [], 6, rfl, hQ, OwnS.nil _ _, hB1.trans (hb2.mono hB1.size)⟩
        · have hQ := make_ok hall hnb (by omega)
          have h16i : ¬ (16 : Int) < (l.length : Int) := by omega
          clear hnb hR hall
          go_wp2_with (first
            | (go_at_call 123; refine hs.mono ?_; rintro e w1 ⟨v1, rfl, ho1, hb1⟩; obtain ⟨a1, c1, rfl⟩ := ho1.shape; rw [hln] at *)
            | (go_at_call 124; refine (hrep _ _ ho1.sls).mono ?_; rintro e w2 ⟨rfl, hb2⟩))
          go_ret2
          have hB1 := hBn.trans (hb1.mono hBn.size)
          exact ⟨_, sortL l, 0, rfl, hQ, OwnS.wide (ho1.stay hb2) hBn.size, hB1.trans (hb2.mono hB1.size)⟩
      · have hR := repB_yes hnb
        rw [hR] at hrep
        have hQ : MkQ l [] 8 := by
          apply Classical.byContradiction
          intro hno
          refine hnb fun j hj e => hno (make_rep hall hj e)
        clear hnb hR hall
        go_wp2_with (first
          | (go_at_call 123; refine hs.mono ?_; rintro e w1 ⟨v1, rfl, ho1, hb1⟩; obtain ⟨a1, c1, rfl⟩ := ho1.shape; rw [hln] at *)
          | (go_at_call 124; refine (hrep _ _ ho1.sls).mono ?_; rintro e w2 ⟨rfl, hb2⟩))
        go_ret2
        have hB1 := hBn.trans (hb1.mono hBn.size)
        exact ⟨_, [], 8, rfl, hQ, OwnS.nil _ _, hB1.trans (hb2.mono hB1.size)⟩
end Go.Proofs.YtiajafljgfpdcaaGreat
