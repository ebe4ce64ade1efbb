/- The contract of Unsafe. -/
import Derived.Test.YtcjmfibehofepaaLast
import Derived.Test.YtcjmfibehofepaaIter
namespace Go.Proofs.Ytcjmfibehofepaa
open Go.RowKit Go.Maps Go.ChangeMaps Go.MapKept Go.Sort Go.Shelf

theorem sortsA (m : Nat) : AnyZI.SortsIn Try.prog sortedA_ren Fence.wide m :=
  ⟨fun blk off cap ss W hH hblk hsz => callsIn_wide.2 (AnyM.slices_Sort_int sortA blk off cap ss W hH hblk hsz),
   fun p cap W => callsIn_wide.2 (AnyM.slices_Sort_int_none sortA p cap W)⟩

/-- The unsafe sectors, rising. -/
def St.unsafes (s : St) : List Int := ((List.range s.sectors).map (fun (i : Nat) => (i : Int))).filter (fun n => (s.fresh n).isSome)

set_option maxRecDepth 100000 in
set_option maxHeartbeats 2000000 in
theorem unsafe_raw {w : World} {p : Nat} {F : Nat → Prop} {s : St} {bs bf ns nf : Nat} {gs gf : Int → Option Nat} (h : IsDisk w p F s bs bf ns nf gs gf) (hnf : nf ≤ 17592186044416) (D0 : DataW Unit) (hown : w.ownsMap Try.prog 3 (slR s.size) bf nf D0) :
    Calls Try.prog 26 #[.pointer (some ⟨p, 0, none⟩)] w fun e w' => ∃ (v : Value) (ss : List Int), e = .returned v ∧ ss.Perm (intKeys D0) ∧
      w'.ownsRow w.heap.size 3 1 v ss.length ((ss.mergeSort (fun x y => decide (x ≤ y))).map encZ) ∧ Below w.heap.size w w' := by
  refine (callsIn_wide (n := 6)).1 ?_
  have c3 := h.c3
  have hbl := hown.lt
  have hszD := hown.size_le
  have hseq : SeqGives Fence.wide 2 Try.prog 44 #[.pointer (some ⟨w.heap.size, 0, none⟩)] encZ (fun ss => ss.Perm (intKeys D0)) (Maps.size D0) (w.alloc (.cells #[.map (some bf)] 62)) :=
    AnyZI.keys_gives (ρ := keysA_ren) { keysA with } Fence.wide _ trivial rfl (by omega) w.heap.size bf nf D0 _ (by simp) (by simp) (by
      obtain ⟨es, clock, hb, Ft, hs, hD⟩ := hown
      exact ⟨es, clock, (Below.heap_alloc _ _ bf hbl).trans hb, Ft, hs, hD⟩)
  have cK : ∀ mb W, CallsIn Fence.wide 5 Try.prog 39 #[.map mb] W fun e w' => e = .returned (.func (.func 44) #[] #[.pointer (some ⟨W.heap.size, 0, none⟩)]) ∧ w' = W.alloc (.cells #[.map mb] 62) := fun mb W => AnyZI.keys_in keysA Fence.wide 5 trivial rfl mb W
  have cS := AnyZI.sorted_in sortedA Fence.wide 5 trivial trivial trivial trivial rfl (by omega) (sortsA _) (enters_of Try.func43 (by kernel_rfl) rfl) 44 #[.pointer (some ⟨w.heap.size, 0, none⟩)] trivial (enters_of Try.func44 (by kernel_rfl) rfl) _ _ (by unfold maxLen; omega) (by omega) _ hseq
  change CallsIn _ _ Try.prog 38 _ _ _ at cS
  have hfK : Fence.wide.fn 39 := trivial
  have hfS : Fence.wide.fn 38 := trivial
  refine callsIn_of_wp Try.func26 rfl trivial ?_ rfl
  simp only [Try.ntmps26, List.size_toArray, List.length_cons, List.length_nil, Nat.reduceAdd, Nat.reduceSub, Array.replicate_succ, Array.replicate_zero, List.push_toArray, List.append_toArray, List.nil_append, List.cons_append]
  gi_wp2_with (first
    | (gi_at_call 39; refine (cK _ _).mono ?_; rintro e w' ⟨rfl, rfl⟩)
    | (gi_at_call 38; refine cS.mono ?_; rintro e w' ⟨v, ss, rfl, hS, hrow, hnil, hb⟩))
  go_ret
  exact ⟨v, ss, rfl, hS, ownsRow_base_a hrow (by simp), ((Below.refl _ w).alloc (Nat.le_refl _) _).trans (hb.mono (by simp))⟩
theorem range_pair (n : Nat) : ((List.range n).map (fun (i : Nat) => (i : Int))).Pairwise (fun a b => a < b) := by
  rw [List.pairwise_map]
  exact List.pairwise_lt_range.imp (fun h => by omega)
theorem unsafes_pair (s : St) : s.unsafes.Pairwise (fun a b => a < b) := (range_pair s.sectors).filter _
theorem unsafes_mem (s : St) (h : ∀ n, (s.fresh n).isSome → 0 ≤ n ∧ n < s.sectors) (n : Int) : n ∈ s.unsafes ↔ (s.fresh n).isSome := by
  unfold St.unsafes
  rw [List.mem_filter, List.mem_map]
  constructor
  · exact fun h => h.2
  · intro hn
    obtain ⟨h1, h2⟩ := h n hn
    exact ⟨⟨n.toNat, List.mem_range.2 (by omega), by omega⟩, hn⟩
theorem unsafes_len (s : St) : s.unsafes.length ≤ s.sectors := by
  unfold St.unsafes
  refine Nat.le_trans (List.length_filter_le _ _) ?_
  simp
theorem unsafes_sorted (s : St) : s.unsafes.mergeSort (fun x y => decide (x ≤ y)) = s.unsafes :=
  List.mergeSort_of_pairwise ((unsafes_pair s).imp (fun h => by simp; omega))
theorem ints_of_row {w : World} {base : Nat} {v : Value} {xs : List Int} (h : w.ownsRow base 3 1 v xs.length (xs.map encZ)) : Ints w v xs := by
  have h' := h
  obtain ⟨h1, h2⟩ := h
  rcases h2 with ⟨rfl, h0⟩ | ⟨g, cap, cur, rfl, _, _, hcap, _, _, _⟩
  · have : xs = [] := by simpa using h0
    subst this
    exact ⟨none, 0, rfl, .inl rfl⟩
  · refine ⟨_, cap, rfl, .inr ⟨g, 0, rfl, fun t ht => ?_⟩⟩
    have hc := World.ownsRow.cells h' rfl t (.int .i64 (xs.getD t 0)) (by simp [List.getElem?_map, List.getElem?_eq_getElem ht, encZ])
    rw [add_at] at hc; exact hc

theorem unsafe_any {w : World} {p : Nat} {F : Nat → Prop} {s : St} (h : IsD w p F s) (hops : s.ops ≤ 17592186044416) :
    Calls Try.prog 26 #[.pointer (some ⟨p, 0, none⟩)] w fun e w' => ∃ v, e = .returned v ∧ Ints w' v s.unsafes ∧ Below w.heap.size w w' ∧ ∀ k, v.ownBlock = some k → w.heap.size ≤ k := by
  obtain ⟨bs, bf, ns, nf, gs, gf, h, hr⟩ := h
  obtain ⟨D0, hown, hD⟩ := h.fresh
  refine (unsafe_raw h (by omega) D0 hown).mono ?_
  rintro e w' ⟨v, ss, rfl, hS, hrow, hb⟩
  have hiff : ∀ n, (gf n).isSome = (s.fresh n).isSome := fun n => by
    cases hg : gf n with
    | none => rw [h.freshNone n hg]; rfl
    | some g => obtain ⟨x, h1, _⟩ := h.freshRow n g hg; rw [h1]; rfl
  have hin : ∀ n, (s.fresh n).isSome → 0 ≤ n ∧ n < s.sectors := fun n hn => by
    rw [← hiff n] at hn
    obtain ⟨g, hg⟩ := Option.isSome_iff_exists.1 hn
    exact h.freshIn n g hg
  have hp : s.unsafes.Perm (intKeys D0) := CollectedI.perm (left := fun _ => false) ⟨(unsafes_pair s).imp (fun h => by omega), fun x => by
    rw [unsafes_mem s hin x, ← hiff x, ← (hD x).1]; simp⟩ hown law Try.underlying3 (fun _ => rfl)
  have e1 : ss.mergeSort (fun x y => decide (x ≤ y)) = s.unsafes := (mergeSort_of_perm_i (hS.trans hp.symm)).trans (unsafes_sorted s)
  have e2 : ss.length = s.unsafes.length := (hS.trans hp.symm).length_eq
  rw [e1, e2] at hrow
  exact ⟨v, rfl, ints_of_row hrow, hb, fun k hk => (hrow.lt k hk).1⟩
end Go.Proofs.Ytcjmfibehofepaa
