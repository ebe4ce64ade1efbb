/- maps.Values over the map of stands: the iterator. -/
import Derived.Test.YtiajafljgfpdcaaGreatBHe
import Derived.Shelf.SlIter.AllValues
import Derived.Shelf.SlIter.Collect
import Derived.RangeFuncNested
import Derived.Sort.MapsRangeIn
import Derived.Sort.KeysCollected
import Derived.WalkKit
import Derived.OwnWalkIn
import Derived.TacticsInMore
import Derived.RegionIn
import Derived.LoopNIn
import Derived.LoopIn
namespace Go.Proofs.YtiajafljgfpdcaaGreat
set_option linter.unusedVariables false
open Go.RowKit Go.Maps Go.Sort
set_option maxRecDepth 100000 in
set_option maxHeartbeats 2000000 in
theorem values1_in (n : Nat) (hn : 1 ≤ n) (l Bm b : Nat) (M : List Sd) (J Jx : List Sd → World → Prop)
    (hY : ∀ pre x W, J pre W → pre.length < M.length → YieldAt Fence.wide (n - 1) Tryz.prog l #[encD x] W fun e W' =>
      (e = .returned (.bool true) ∧ J (pre ++ [x]) W' ∧ KeepsWalks W W') ∨ (e = .returned (.bool false) ∧ Jx (pre ++ [x]) W'))
    (W : World) (hJ : AbidesFrom W.heap.size J) (hm : W.cell? ⟨Bm, 0, none⟩ = some (.map (some b))) (hM : MapIs W b M) (h0 : J [] W) :
    CallsIn Fence.wide n Tryz.prog 103 #[.func (.yield l) #[] #[], .pointer (some ⟨Bm, 0, none⟩)] W fun e W' => (∃ v, e = .returned v) ∧
      ((∃ xs, xs.Perm M ∧ J xs W') ∨ (∃ pre, True ∧ Jx pre W')) := by
  obtain ⟨D0, hown, hsz, hr, hset, hm1, hm2⟩ := hM
  refine callsIn_of_wp Tryz.func103 rfl trivial ?_ rfl
  simp only [Tryz.ntmps103, List.size_toArray, List.length_cons, List.length_nil, Nat.reduceAdd, Nat.reduceSub, Array.replicate_succ, Array.replicate_zero, List.push_toArray, List.append_toArray, List.nil_append, List.cons_append]
  gi_wp2_with (first
    | (gi_at_range; refine wpListIn_range_own _ rfl _ 79 rfl 9 120 lawS Tryz.underlying79 _ b M.length _ rfl hown ?_; intro w0 hrg0 hg0 hs0)
    | gi_in)
  go_frame
  gi_loopw [4] (fun _ wr => ∃ (left : Lit → Bool) (cnt : Nat) (xs : List Sd), wr.ranges Tryz.prog 9 RV b W.heap.size M.length D0 left cnt ∧ xs.length + cnt ≤ Maps.size D0 ∧ Collected D0 left (xs.map fun s => keyU s.s.ls) ∧ (∀ x ∈ xs, x ∈ M) ∧ J xs wr)
    (fun _ wr => wr.rangeLeft b W.heap.size)
  case atStart =>
    exact ⟨_, _, [], hrg0, by simp, Collected.start D0, by simp, hJ [] W w0 none h0 hg0 (fun r e => by cases e)⟩
  case round =>
    obtain ⟨left, cnt, xs, hrg, hcs, hC, hV, hJs⟩ := hrel
    gi_wp2_with (first
      | (gi_at_next; refine wpListIn_next_ranges _ rfl _ rfl 9 lawS RV encStr id (fun key kl hk => by obtain ⟨x, hx, _⟩ := Maps.keyOf_str Tryz.underlying9 hk; exact ⟨x, hx⟩) (fun v y hv => ⟨v, rfl⟩) b W.heap.size M.length _ _ _ rfl hrg ?_ ?_)
      | gi_in)
    · intro hc0 hl0
      gi_wp2
      go_end0
      refine ⟨⟨_, rfl⟩, .inl ⟨xs, ?_, hJs⟩⟩
      have hnd : xs.Nodup := (List.pairwise_map.1 hC.1).imp fun h e => h (by rw [e])
      refine (List.perm_ext_iff_of_nodup hnd hr.nodup).2 fun x => ⟨hV x, fun hx => ?_⟩
      have h1 := (hC.2 (keyU x.s.ls)).2 ⟨(hm2 x hx).1, hl0 _⟩
      obtain ⟨y, hy, e⟩ := List.mem_map.1 h1
      have e2 := keyU_inj (hset y (hV y hy)) (hset x hx) e
      have g1 := getG_of hr (hV y hy)
      have g2 := getG_of hr hx
      simp only [e2] at g1
      rw [g1] at g2
      cases g2
      exact hy
    · intro x c kl yd yp w2 cnt2 hkey hlk hv hat hrg2 hlt hg2 hs2 hen
      obtain ⟨x', ex, rfl, _⟩ := Maps.keyOf_str Tryz.underlying9 hkey
      obtain rfl : x = x' := encStr_inj ex
      have hhas : has D0 (.string x) = true := by
        cases hh : has D0 (.string x) with
        | true => rfl
        | false =>
          have h1 := hat (.nil)
          have h2 := hat (.ptr .nil)
          rw [atKey_of_not_has hh] at h1 h2
          rw [← h1] at h2
          cases h2
      obtain ⟨s, hsM, rfl⟩ := hm1 x hhas
      have hcv : c = encD s := by
        have h1 := hat .nil
        rw [(hm2 s hsM).2] at h1
        rw [← h1] at hv
        exact RV_eq hv
      subst hcv
      have hJ2 : J xs w2 := hJ _ wr w2 (some W.heap.size) hJs hg2 (fun r e => by cases e; exact ⟨Nat.le_refl _, hrg.iter_walk⟩)
      have hg3 : w2.grownBy (w2.alloc (sO s)) none := World.grownBy_alloc w2 (sO s) none
      have hJ3 : J xs (w2.alloc (sO s)) := hJ _ w2 _ none hJ2 hg3 (fun r e => by cases e)
      obtain ⟨fn, tmps, assign, body, hy, hR⟩ := hY xs s (w2.alloc (sO s)) hJ3 (by omega)
      have hk3 : KeepsWalks w2 (w2.alloc (sO s)) := KeepsWalks.alloc _ _
      have hC2 : Collected D0 (fun z => left z && !z.sameKey (.string (keyU s.s.ls))) ((xs ++ [s]).map fun s => keyU s.s.ls) := by
        rw [List.map_append]
        exact hC.step hlk hat
      have hV2 : ∀ x ∈ xs ++ [s], x ∈ M := fun x hx => (List.mem_append.1 hx).elim (hV x) (fun e => by
        have : x = s := by simpa using e
        rw [this]; exact hsM)
      clear hs2
      unfold encD at *
      gi_wp2
      refine hR.mono ?_
      rintro e W3 (⟨rfl, hJ4, hk4⟩ | ⟨rfl, hJx4⟩)
      · gi_wp2
        have hrg3 := (hrg2.of_walks hk3).of_walks hk4
        go_roundw
        case rel => exact ⟨_, cnt2, xs ++ [s], hrg3, by simp; omega, hC2, hV2, hJ4⟩
        case measure => rw [hrg3.left_eq, hrg.left_eq]; exact hlt
      · gi_wp2
        refine bodyPost_ret (results_none rfl _ _ _) rfl ?_
        exact ⟨⟨_, rfl⟩, .inr ⟨xs ++ [s], trivial, hJx4⟩⟩
theorem values_in (n : Nat) (b : Nat) (w : World) :
    CallsIn Fence.wide n Tryz.prog 72 #[.map (some b)] w fun e w' => e = .returned (.func (.func 103) #[] #[.pointer (some ⟨w.heap.size, 0, none⟩)]) ∧ w' = w.alloc (.cells #[.map (some b)] 79) := by
  refine callsIn_of_wp Tryz.func72 rfl trivial ?_ rfl
  simp only [Tryz.ntmps72, List.size_toArray, List.length_cons, List.length_nil, Nat.reduceAdd, Nat.reduceSub, Array.replicate_succ, Array.replicate_zero, List.push_toArray, List.append_toArray, List.nil_append, List.cons_append]
  gi_wp2
  go_ret
  exact ⟨rfl, rfl⟩
theorem values_stops (n : Nat) (hn : 1 ≤ n) (Bm b : Nat) (M : List Sd) (w : World) (hBm : Bm < w.heap.size) (hm : w.cell? ⟨Bm, 0, none⟩ = some (.map (some b))) (hM : MapIs w b M) :
    SeqStopsK Fence.wide n Tryz.prog 103 #[.pointer (some ⟨Bm, 0, none⟩)] (fun x : Sd => #[encD x]) KeepsWalks (fun xs => xs.Perm M) (fun _ => True) M.length w := fun l J Jx W hW hJ _ hY h0 =>
  values1_in n hn l Bm b M J Jx hY W hJ ((hW.cell (p := ⟨Bm, 0, none⟩) hBm).trans hm) (hM.grow hW) h0
end Go.Proofs.YtiajafljgfpdcaaGreat
