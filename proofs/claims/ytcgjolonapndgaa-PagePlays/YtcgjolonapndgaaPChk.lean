/- The iterator of slices.Chunk. -/
import Derived.RangeFuncNested
import Derived.RangeFuncBound
import Derived.RangeFuncCalls
import Derived.RangeFuncLeaves
import Derived.Shelf.Abstract
import Derived.Shelf.RegionOpen
import Derived.OwnWalkIn
import Derived.TacticsInMore
import Derived.LoopNIn
import Derived.LoopIn
import Derived.Test.YtcgjolonapndgaaArgs
namespace Go.Proofs.Ytcgjolonapndgaa
set_option linter.unusedVariables false
open Go.RowKit Go.Maps Go.ChangeMaps Go.MapKept Go.Shelf
attribute [local go_sem] Oper.semAt_some
/-- What a round keeps: the two boxes. -/
def KeepC (sb nb : Nat) (A B : World) : Prop := B.heap[sb]? = A.heap[sb]? ∧ B.heap[nb]? = A.heap[nb]?
set_option maxRecDepth 100000 in
set_option maxHeartbeats 2000000 in
theorem chunk1_in (F : Fence) (n : Nat) (h56 : F.fn 56) (hro : F.round = none) (hn : 1 ≤ n) (l sb nb g cap sz cnt N : Nat) (hN : N = cnt * sz) (hsz : 1 ≤ sz) (hNl : N ≤ 1000000) (hcap : N ≤ cap) (hcl : cap ≤ 1000000) (J Jx : List Nat → World → Prop)
    (hD : ∀ pre W, J pre W → J pre W.drew)
    (hY : ∀ pre x W, J pre W → pre.length < cnt → YieldAt F (n - 1) Try.prog l #[.slice (some ⟨g, x % cnt * sz, none⟩) sz sz] W fun e W' =>
      (e = .returned (.bool true) ∧ J (pre ++ [x]) W' ∧ KeepC sb nb W W') ∨ (e = .returned (.bool false) ∧ Jx (pre ++ [x]) W'))
    (W : World) (hs : W.cell? ⟨sb, 0, none⟩ = some (.slice (some ⟨g, 0, none⟩) N cap)) (hnb : W.cell? ⟨nb, 0, none⟩ = some (.int .i64 sz)) (h0 : J [] W) :
    CallsIn F n Try.prog 56 #[.func (.yield l) #[] #[], .pointer (some ⟨sb, 0, none⟩), .pointer (some ⟨nb, 0, none⟩)] W fun e W' => (∃ v, e = .returned v) ∧
      ((∃ ys, ys = List.range cnt ∧ J ys W') ∨ (∃ pre, (∃ k, k ≤ cnt ∧ pre = List.range k) ∧ Jx pre W')) := by
  replace hN : Hid _ := hN
  refine callsIn_of_wp Try.func56 rfl h56 ?_ hro
  simp only [Try.ntmps56, List.size_toArray, List.length_cons, List.length_nil, Nat.reduceAdd, Nat.reduceSub, Array.replicate_succ, Array.replicate_zero, List.push_toArray, List.append_toArray, List.nil_append, List.cons_append]
  gi_wp2
  gi_loopw [4] (fun i wr => ∃ k t : Nat, k ≤ cnt ∧ Hid (t = k * sz) ∧ i = .int .i64 t ∧ J (List.range k) wr ∧ wr.cell? ⟨sb, 0, none⟩ = some (.slice (some ⟨g, 0, none⟩) N cap) ∧ wr.cell? ⟨nb, 0, none⟩ = some (.int .i64 sz))
    (fun i _ => N - (intOf i).toNat)
  case atStart => exact ⟨0, 0, Nat.zero_le _, by show _ = _; simp, rfl, h0, hs, hnb⟩
  case round =>
    obtain ⟨k, t, hk, ht, rfl, hJs, c1, c2⟩ := hrel
    by_cases hlt : k < cnt
    · have htN : t + sz ≤ N := by
        have h1 : (k + 1) * sz ≤ cnt * sz := Nat.mul_le_mul_right sz hlt
        rw [Nat.add_mul, Nat.one_mul, ← ht.out, ← hN.out] at h1
        exact h1
      have hti : (t : Int) < (N : Int) := by omega
      have ht2 : (t : Int) ≤ (N : Int) := by omega
      have hmin : min (sz : Int) ((N : Int) - (t : Int)) = sz := by omega
      have hx : k % cnt * sz = t := by rw [Nat.mod_eq_of_lt hlt]; exact ht.out.symm
      obtain ⟨fn, tmps, assign, body, hy, hR⟩ := hY _ k wr.drew (hD _ _ hJs) (by simpa using hlt)
      rw [hx] at hy
      clear hx
      have hns : ¬ (N - t < sz) := by omega
      have hct : ¬ (cap = t) := by omega
      have hcs : ((t : Int) + (sz : Int)) ≤ (cap : Int) := by omega
      gi_wp2
      gi_region
      all_goals gi_wp2
      all_goals
        refine hR.mono ?_
        rintro e W3 (⟨rfl, hJ3, hk3⟩ | ⟨rfl, hJx3⟩)
        · have c13 : W3.cell? ⟨sb, 0, none⟩ = some (.slice (some ⟨g, 0, none⟩) N cap) := (World.cell?_of_block (w := wr.drew) (w' := W3) (a := ⟨sb, 0, none⟩) hk3.1).trans c1
          have c23 : W3.cell? ⟨nb, 0, none⟩ = some (.int .i64 sz) := (World.cell?_of_block (w := wr.drew) (w' := W3) (a := ⟨nb, 0, none⟩) hk3.2).trans c2
          gi_wp2
          go_roundw
          case rel => exact ⟨k + 1, t + sz, by omega, (by show _ = _; rw [ht.out, Nat.add_mul, Nat.one_mul]), by go_num, (by rw [List.range_succ]; exact hJ3), c13, c23⟩
          case measure => simp [intOf]; omega
        · gi_wp2
          refine bodyPost_ret (results_none rfl _ _ _) rfl ?_
          exact ⟨⟨_, rfl⟩, .inr ⟨_, ⟨k + 1, by omega, List.range_succ.symm⟩, hJx3⟩⟩
    · obtain rfl : k = cnt := by omega
      have htN : t = N := by rw [ht.out, hN.out]
      subst htN
      gi_wp2
      go_end0
      exact ⟨⟨_, rfl⟩, .inl ⟨_, rfl, hJs⟩⟩
/-- slices.Chunk of bytes whose length is a multiple, as an iterator: all of them, or the first ones. -/
theorem chunk_stops (F : Fence) (n : Nat) (h56 : F.fn 56) (hro : F.round = none) (hn : 1 ≤ n) (sb nb g cap sz cnt N : Nat) (hN : N = cnt * sz) (hsz : 1 ≤ sz) (hNl : N ≤ 1000000) (hcap : N ≤ cap) (hcl : cap ≤ 1000000) (w : World)
    (hs : w.cell? ⟨sb, 0, none⟩ = some (.slice (some ⟨g, 0, none⟩) N cap)) (hnb : w.cell? ⟨nb, 0, none⟩ = some (.int .i64 sz)) :
    SeqStopsK F n Try.prog 56 #[.pointer (some ⟨sb, 0, none⟩), .pointer (some ⟨nb, 0, none⟩)] (fun x : Nat => #[Value.slice (some ⟨g, x % cnt * sz, none⟩) sz sz]) (KeepC sb nb) (fun ys => ys = List.range cnt) (fun pre => ∃ k, k ≤ cnt ∧ pre = List.range k) cnt w := fun l J Jx W hW hJ hJx hY h0 => by
  have c1 := (hW.cell (p := ⟨sb, 0, none⟩) (World.block_lt_of_cell? w _ hs)).trans hs
  have c2 := (hW.cell (p := ⟨nb, 0, none⟩) (World.block_lt_of_cell? w _ hnb)).trans hnb
  exact chunk1_in F n h56 hro hn l sb nb g cap sz cnt N hN hsz hNl hcap hcl J Jx (fun pre X hX => hJ pre X X.drew none hX ⟨rfl, rfl, rfl, Nat.le_refl _, fun _ _ _ => rfl⟩ (fun r e => by cases e)) hY W c1 c2 h0
set_option maxRecDepth 100000 in
set_option maxHeartbeats 1000000 in
/-- slices.Chunk: its two arguments are boxed. -/
theorem chunk_in (F : Fence) (n : Nat) (h44 : F.fn 44) (hro : F.round = none) (a : Option Addr) (len cap : Nat) (sz : Nat) (hsz : 1 ≤ sz) (w : World) :
    CallsIn F n Try.prog 44 #[.slice a len cap, .int .i64 sz] w fun e w' => e = .returned (.func (.func 56) #[] #[.pointer (some ⟨w.heap.size, 0, none⟩), .pointer (some ⟨w.heap.size + 1, 0, none⟩)]) ∧ w' = (w.alloc (.cells #[.slice a len cap] 23)).alloc (.cells #[.int .i64 sz] 3) := by
  have hd : decide ((sz : Int) < 1) = false := by simp; omega
  refine callsIn_of_wp Try.func44 rfl h44 ?_ hro
  simp only [Try.ntmps44, List.size_toArray, List.length_cons, List.length_nil, Nat.reduceAdd, Nat.reduceSub, Array.replicate_succ, Array.replicate_zero, List.push_toArray, List.append_toArray, List.nil_append, List.cons_append]
  gi_wp2
  go_ret
  exact ⟨rfl, rfl⟩
end Go.Proofs.Ytcgjolonapndgaa
