/- append([]T{}, x...): the laws for slices of ints and of torn sectors. -/
import Derived.Test.YtcjmfibehofepaaBytes
namespace Go.Proofs.Ytcjmfibehofepaa
open Go.RowKit Go.Maps Go.ChangeMaps Go.MapKept
theorem infoI : (Try.prog.info? 3).map (fun i => (i.zero, i.size, i.bytes)) = some (some (.int .i64 0), 1, 8) := by kernel_rfl
theorem infoT : (Try.prog.info? 58).map (fun i => (i.zero, i.size, i.bytes)) = some (some (.agg #[.int .i64 0, .int .i64 0]), 2, 16) := by kernel_rfl
theorem below_same {w w' : World} (h1 : w'.os = w.os) (h2 : w'.tape = w.tape) (h3 : w'.output = w.output) (h4 : w.heap.size ≤ w'.heap.size) (h5 : ∀ k, k < w.heap.size → w'.heap[k]? = w.heap[k]?) : Below w.heap.size w w' := ⟨h1, h2, h3, h4, h5⟩
section
variable {w : World} (t e : TypeId) (i : TypeInfo) (ht : Try.prog.underlying t = some (.slice e)) (hi : Try.prog.info? e = some i)
include ht hi
/-- Nothing is appended. -/
theorem run_copy_none (g : Nat) (hg : w.heap[g]? = some (.cells #[] e (0, 0))) (a : Option Addr) (c : Nat) :
    ∃ w', (∀ ty, (Builtin.append_ #[t, t] ty #[.slice (some ⟨g, 0, none⟩) 0 0, .slice a 0 c]).run Try.prog w = .ok (.slice (some ⟨g, 0, none⟩) 0 0) w') ∧ Below w.heap.size w w' := by
  cases a with
  | none =>
    refine ⟨w, fun ty => ?_, Below.refl _ _⟩
    simp [Builtin.append_, run_underlying ht, sizeOf, typeInfo, hi, Builtin.lenOf, Builtin.firstCells, storeCells]
  | some a =>
    refine ⟨_, fun ty => run_append_room (P := Try.prog) w t ty e i ht hi g 0 0 #[] hg a 0 c [] (by simp) (by simp) (by simp) (Nat.le_refl _) (by simp), ?_⟩
    refine below_same rfl rfl rfl (by simp [World.setRow]) (fun k hk => ?_)
    by_cases h : k = g
    · subst h
      rw [setRow_heap w k #[] _ e _ hg]
      simpa using hg.symm
    · exact setRow_other w g k _ h
/-- Something is. -/
theorem run_copy_some (z : Value) (hz : i.zero = some z) (g : Nat) (a : Addr) (m c : Nat) (news : List Value) (hl : news.length = m * i.size) (hnews : ∀ j v, news[j]? = some v → w.cell? (a.add j) = some v) (h0 : 0 < m) (hm : m ≤ 1000000) (hby : i.bytes ≤ 16) :
    ∃ g' c' w', (∀ ty, (Builtin.append_ #[t, t] ty #[.slice (some ⟨g, 0, none⟩) 0 0, .slice (some a) m c]).run Try.prog w = .ok (.slice (some ⟨g', 0, none⟩) m c') w') ∧ Below w.heap.size w w' ∧ w.heap.size ≤ g' ∧ ∀ j v, news[j]? = some v → w'.cell? ⟨g', j, none⟩ = some v := by
  have hgs := growslice_fits (old := 0) (need := 0 + m) (bytes := i.bytes) (by omega) (by have := Nat.mul_le_mul (show 0 + m ≤ 1000000 by omega) hby; omega)
  have hr := fun ty => run_append_grow (P := Try.prog) w t ty e i z ht hi hz ⟨g, 0, none⟩ 0 0 [] (by simp) (by simp) a m c news hl hnews (by omega) (by omega) hgs
  rw [Nat.zero_add] at hr
  refine ⟨w.heap.size, _, _, hr, ?_, Nat.le_refl _, fun j v hj => ?_⟩
  · exact ((Below.refl _ w).drew).alloc (Nat.le_refl _) _
  · have hjl : j < news.length := by
      rcases Nat.lt_or_ge j news.length with h | h
      · exact h
      · rw [List.getElem?_eq_none h] at hj; cases hj
    have := heap_alloc_new w.drew (.cells (([] : List Value).toArray ++ news.toArray ++ Builtin.zeroCells z.cells (grownCap w m 0 e - m)) e)
    have hw : w.drew.heap.size = w.heap.size := rfl
    rw [hw] at this
    simp only [World.cell?, this]
    simp [Array.getElem?_append, hjl]
    rw [List.getElem?_eq_getElem hjl] at hj
    simpa using hj
end
/-- append as an operation of a drawn region, its run known. -/
theorem copyWp {w : World} {o : Oper} {a : Act} {K : Act → World → Prop} {Q : Exit → Act → World → Prop} (s x : Operand) (t : TypeId)
    (ho : o.op = .call { callee := .builtin .append, args := #[s, x], argTypes := #[t, t] }) (d : Option Tmp) (hd : o.dst = d) (v u v' : Value) (w' : World) (hs : a.eval s = v) (hx : a.eval x = u)
    (hr : ∀ ty, (Builtin.append_ #[t, t] ty #[v, u]).run Try.prog w = .ok v' w') (h : K (a.put d v') w') : Oper.wp Try.prog o a w K Q := by
  subst hd
  unfold Oper.wp
  simp [execOp, ho, resolve, invoke, builtin, hs, hx, hr, Result.andThen]
  exact h
theorem copyI {W : World} {g : Nat} {vk : Value} {keep : List Int} (hk : Ints W vk keep) (hl : keep.length ≤ 1000000) (hg : W.heap[g]? = some (.cells #[] 3 (0, 0))) :
    ∃ v' W', (∀ ty, (Builtin.append_ #[34, 34] ty #[.slice (some ⟨g, 0, none⟩) 0 0, vk]).run Try.prog W = .ok v' W') ∧ Ints W' v' keep ∧ Below W.heap.size W W' := by
  obtain ⟨i0, hi, hz0, hz1, hz2⟩ := info_parts infoI
  obtain ⟨a, c, rfl, h⟩ := hk
  by_cases h0 : keep = []
  · subst h0
    obtain ⟨w', hr, hb⟩ := run_copy_none 34 3 i0 Try.underlying34 hi g hg a c
    exact ⟨_, w', hr, ⟨_, 0, rfl, .inl rfl⟩, hb⟩
  · rcases h with h | ⟨b, o, rfl, h⟩
    · exact absurd h h0
    · have hp : 0 < keep.length := List.length_pos_iff.2 h0
      obtain ⟨g', c', w', hr, hb, _, hc⟩ := run_copy_some 34 3 i0 Try.underlying34 hi _ hz0 g ⟨b, o, none⟩ keep.length c (keep.map (Value.int .i64)) (by rw [hz1]; simp) (fun j v hj => by
        rw [List.getElem?_map] at hj
        have hjl : j < keep.length := by
          rcases Nat.lt_or_ge j keep.length with h | h
          · exact h
          · rw [List.getElem?_eq_none h] at hj; cases hj
        rw [List.getElem?_eq_getElem hjl] at hj
        simp only [Option.map_some, Option.some.injEq] at hj
        subst hj
        rw [add_at, h j hjl]; simp [hjl]) hp hl (by rw [hz2]; omega)
      refine ⟨_, w', hr, ⟨_, c', rfl, .inr ⟨g', 0, rfl, fun t ht => ?_⟩⟩, hb⟩
      rw [Nat.zero_add]
      exact hc t _ (by simp [ht])
/-- The cells of torn sectors. -/
def cellsT : List (Int × Int) → List Value
  | [] => []
  | q :: r => .int .i64 q.1 :: .int .i64 q.2 :: cellsT r
theorem cellsT_len (ts : List (Int × Int)) : (cellsT ts).length = ts.length * 2 := by
  induction ts with
  | nil => rfl
  | cons q r ih => simp [cellsT, ih]; omega
theorem cellsT_at (ts : List (Int × Int)) (t : Nat) (ht : t < ts.length) : (cellsT ts)[t * 2]? = some (.int .i64 (ts.getD t (0, 0)).1) ∧ (cellsT ts)[t * 2 + 1]? = some (.int .i64 (ts.getD t (0, 0)).2) := by
  induction ts generalizing t with
  | nil => simp at ht
  | cons q r ih =>
    cases t with
    | zero => simp [cellsT]
    | succ t =>
      have := ih t (by simpa using ht)
      rw [show (t + 1) * 2 = t * 2 + 1 + 1 by omega, show t * 2 + 1 + 1 + 1 = (t * 2 + 1) + 1 + 1 by omega]
      simpa [cellsT] using this
theorem copyT {W : World} {g : Nat} {vt : Value} {ts : List (Int × Int)} (hk : Torns W vt ts) (hl : ts.length ≤ 1000000) (hg : W.heap[g]? = some (.cells #[] 58 (0, 0))) :
    ∃ v' W', (∀ ty, (Builtin.append_ #[35, 35] ty #[.slice (some ⟨g, 0, none⟩) 0 0, vt]).run Try.prog W = .ok v' W') ∧ Torns W' v' ts ∧ Below W.heap.size W W' := by
  obtain ⟨i0, hi, hz0, hz1, hz2⟩ := info_parts infoT
  obtain ⟨a, c, rfl, h⟩ := hk
  by_cases h0 : ts = []
  · subst h0
    obtain ⟨w', hr, hb⟩ := run_copy_none 35 58 i0 Try.underlying35 hi g hg a c
    exact ⟨_, w', hr, ⟨_, 0, rfl, .inl rfl⟩, hb⟩
  · rcases h with h | ⟨b, o, rfl, h⟩
    · exact absurd h h0
    · have hp : 0 < ts.length := List.length_pos_iff.2 h0
      obtain ⟨g', c', w', hr, hb, _, hc⟩ := run_copy_some 35 58 i0 Try.underlying35 hi _ hz0 g ⟨b, o, none⟩ ts.length c (cellsT ts) (by rw [hz1]; exact cellsT_len ts) (fun j v hj => by
        have hjl : j < ts.length * 2 := by
          rcases Nat.lt_or_ge j (ts.length * 2) with h | h
          · exact h
          · rw [List.getElem?_eq_none (by rw [cellsT_len]; exact h)] at hj; cases hj
        rw [add_at]
        obtain ⟨h1, h2⟩ := h (j / 2) (by omega)
        obtain ⟨k1, k2⟩ := cellsT_at ts (j / 2) (by omega)
        by_cases hev : j % 2 = 0
        · rw [show j / 2 * 2 = j by omega] at h1 k1
          rw [k1] at hj
          rw [h1]; exact hj
        · rw [show o + j / 2 * 2 + 1 = o + j by omega] at h2
          rw [show j / 2 * 2 + 1 = j by omega] at k2
          rw [k2] at hj
          rw [h2]; exact hj) hp hl (by rw [hz2]; omega)
      refine ⟨_, w', hr, ⟨_, c', rfl, .inr ⟨g', 0, rfl, fun t ht => ?_⟩⟩, hb⟩
      obtain ⟨k1, k2⟩ := cellsT_at ts t ht
      rw [Nat.zero_add]
      exact ⟨hc _ _ k1, hc _ _ k2⟩
end Go.Proofs.Ytcjmfibehofepaa
