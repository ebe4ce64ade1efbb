/- The nodes of DagCircle: what is told of them. -/
import Derived.Test.YtaffplmfnincfaaGreatDoorPe
namespace Go.Proofs.YtaffplmfnincfaaGreatDoor
set_option linter.unusedVariables false
open Go.RowKit
theorem compact_sub {zs : List (List UInt8)} {x : List UInt8} (h : x ∈ Lib.compact zs) : x ∈ zs := by
  unfold Lib.compact Lib.compactUpTo at h
  obtain ⟨i, hi, rfl⟩ := List.mem_map.1 h
  have hi1 : i < zs.length := by have := (List.mem_filter.1 hi).1; simpa using this
  simp [hi1]
theorem refsR_sub {x : Ex} {r : ByteArray} (h : r ∈ refsR x) : r ∈ refsE x := by
  unfold refsR cmpS' blS at h
  obtain ⟨y, hy, rfl⟩ := List.mem_map.1 h
  have h2 := compact_sub hy
  obtain ⟨z, hz, rfl⟩ := List.mem_map.1 h2
  rw [bB_list]
  unfold srtS blS at hz
  obtain ⟨u, hu, rfl⟩ := List.mem_map.1 hz
  obtain ⟨t, ht, rfl⟩ := List.mem_map.1 (List.mem_mergeSort.1 hu)
  rw [bB_list]
  exact ht
theorem mem_inpM {s : ByteArray} {X : Ex} (hs : s.size ≤ 1024) (h : Whole (par := parC) s X) {r : ByteArray} : r ∈ inpM s ↔ r ∈ refsE X := by
  rw [inpM_ok hs h]
  exact ⟨refsR_sub, refsR_mem⟩
def ndK (i : Nat) : Nd := ⟨nmK i, 3, ⟨#[]⟩, ⟨#[]⟩, ⟨#[]⟩, false, zer, zer, txK i⟩
def ndT (i t : Nat) : Nd := ⟨nmK i, 3, ⟨#[]⟩, ⟨#[]⟩, ⟨#[]⟩, false, zer, zer, txT i t⟩
theorem txT_len {i t : Nat} (hi : i < 10) : (txT i t).size ≤ 20 := by
  unfold txT
  have := txK_len i hi
  rw [ByteArray.size_append, ByteArray.size_append]
  have h1 : (nmK t).size = 1 := rfl
  have h2 : (⟨#[32, 43, 32, 36]⟩ : ByteArray).size = 4 := rfl
  omega
theorem refs_K {i : Nat} {r : ByteArray} : r ∈ refsE (exK i) ↔ i ≠ 0 ∧ r = nmK (i - 1) := by
  unfold exK
  by_cases h : i = 0
  · rw [if_pos h, refs_n]; simp [h]
  · rw [if_neg h, refs_2, refs_r, refs_n]; simp [h]
theorem inK {i : Nat} (hi : i < 10) {r : ByteArray} : r ∈ inpN (ndK i) ↔ i ≠ 0 ∧ r = nmK (i - 1) := by
  rw [show inpN (ndK i) = inpM (txK i) from inpN_math rfl, mem_inpM (by have := txK_len i hi; omega) (whK i hi)]
  exact refs_K
theorem inT {i t : Nat} (hi : i < 10) (ht : t < 10) {r : ByteArray} : r ∈ inpN (ndT i t) ↔ (i ≠ 0 ∧ r = nmK (i - 1)) ∨ r = nmK t := by
  rw [show inpN (ndT i t) = inpM (txT i t) from inpN_math rfl, mem_inpM (by have := txT_len (t := t) hi; omega) (whT i hi t ht)]
  unfold exT
  rw [refs_2, refs_r, List.mem_append, refs_K]
  simp
theorem may_of {r t : ByteArray} (h1 : refB r = true) (h2 : treeB t = true) : mayB ⟨r, 3, ⟨#[]⟩, ⟨#[]⟩, ⟨#[]⟩, false, zer, zer, t⟩ = true := by
  unfold mayB
  have h3 : partsB ⟨r, 3, ⟨#[]⟩, ⟨#[]⟩, ⟨#[]⟩, false, zer, zer, t⟩ = true := by
    unfold partsB
    rw [if_neg (show ¬ (3 : Int) = 1 by decide), if_neg (show ¬ (3 : Int) = 2 by decide), if_pos (by rfl)]
    exact h2
  have h4 : eqNd ⟨r, 3, ⟨#[]⟩, ⟨#[]⟩, ⟨#[]⟩, false, zer, zer, t⟩ (wipN ⟨r, 3, ⟨#[]⟩, ⟨#[]⟩, ⟨#[]⟩, false, zer, zer, t⟩) = true := by
    rw [eqNd_iff]
    unfold wipN
    rw [if_neg (show ¬ (3 : Int) = 1 by decide), if_neg (show ¬ (3 : Int) = 2 by decide), if_pos (by rfl)]
  rw [h1, h3, h4]
  rfl
theorem mayK {i : Nat} (hi : i < 10) : mayB (ndK i) = true := may_of (refK i hi) (treeB_ok (by have := txK_len i hi; omega) (whK i hi))
theorem mayT {i t : Nat} (hi : i < 10) (ht : t < 10) : mayB (ndT i t) = true := may_of (refK i hi) (treeB_ok (by have := txT_len (t := t) hi; omega) (whT i hi t ht))
theorem blt_nm {i j : Nat} (hj : j < 10) (h : i < j) : bltS (nmK i) (nmK j) := by
  unfold bltS nmK numsS
  simp only [List.map_cons, List.map_nil]
  rw [UInt8.toNat_ofNat_of_lt' (by show _ < 256; omega), UInt8.toNat_ofNat_of_lt' (by show _ < 256; omega)]
  rw [cmpL, if_pos (by omega)]
/-- Steps that stand in their order already. -/
theorem ordF_line : ∀ (L : List Sq) (T : List ByteArray), (∀ k (hk : k < L.length), ∀ r ∈ (L[k]).2, r ∈ T ++ (L.take k).map (·.1)) → ordF L.length L T = some (T ++ L.map (·.1))
  | [], T, _ => by simp [ordF]
  | s :: L, T, h => by
    have h0 : rdy T s = true := by
      unfold rdy
      rw [List.all_eq_true]
      intro r hr
      have := h 0 (by simp) r hr
      exact inB_iff.2 (by simpa using this)
    have h1 := ordF_step (A := []) (B := L) (s := s) (T := T) (fun x hx => by cases hx) h0
    simp only [List.nil_append] at h1
    rw [h1, ordF_line L (T ++ [s.1]) fun k hk r hr => by
      have := h (k + 1) (by simp; omega) r hr
      simpa using this]
    simp
theorem gl_refs {g : Nat → Nd} (hg : ∀ i, (g i).ref = nmK i) {n : Nat} (hn : n ≤ 10) : ((List.range n).map g).map (·.ref) = (List.range n).map nmK := by
  rw [List.map_map]
  exact List.map_congr_left fun i _ => hg i
theorem gl_is {g : Nat → Nd} (hg : ∀ i, (g i).ref = nmK i) {n : Nat} (hn : n ≤ 10) {r : ByteArray} : IsR ((List.range n).map g) r ↔ ∃ j, j < n ∧ r = nmK j := by
  constructor
  · rintro ⟨x, hx, rfl⟩
    obtain ⟨j, hj, rfl⟩ := List.mem_map.1 hx
    exact ⟨j, List.mem_range.1 hj, hg j⟩
  · rintro ⟨j, hj, rfl⟩
    exact ⟨g j, List.mem_map_of_mem (List.mem_range.2 hj), hg j⟩
section
variable {g : Nat → Nd} (hg : ∀ i, (g i).ref = nmK i) {n : Nat} (hn : n ≤ 10)
include hg hn
theorem gl_nodup : (((List.range n).map g).map (·.ref)).Nodup := by
  rw [gl_refs hg hn, List.Nodup, List.pairwise_map]
  refine (List.pairwise_lt_range (n := n)).imp_of_mem ?_
  intro a b ha hb hab e
  have h1 := List.mem_range.1 ha
  have h2 := List.mem_range.1 hb
  have := nmK_inj a (by omega) b (by omega) e
  omega
theorem gl_rise : SRise (((List.range n).map g).map sqN) := by
  unfold SRise
  rw [List.map_map, List.pairwise_map]
  refine (List.pairwise_lt_range (n := n)).imp_of_mem ?_
  intro a b ha hb hab
  have h2 := List.mem_range.1 hb
  show bltS (g a).ref (g b).ref
  rw [hg, hg]
  exact blt_nm (by omega) hab
theorem gl_order (h : ∀ i, i < n → ∀ r ∈ inpN (g i), ∃ j, j < i ∧ r = nmK j) : OrdT ((List.range n).map g) (some ((List.range n).map nmK)) := by
  refine ⟨((List.range n).map g).map sqN, List.Perm.refl _, gl_rise hg hn, ?_⟩
  rw [ordF_line _ [] ?_]
  · rw [List.nil_append, List.map_map, ← gl_refs hg hn]
    rfl
  · intro k hk r hr
    have hk2 : k < n := by simpa using hk
    have hr2 : r ∈ inpN (g k) := by simpa [sqN] using hr
    obtain ⟨j, hj, rfl⟩ := h k hk2 r hr2
    rw [List.nil_append]
    refine List.mem_map.2 ⟨sqN (g j), ?_, hg j⟩
    rw [List.mem_take_iff_getElem]
    exact ⟨j, by simp; omega, by simp⟩
theorem gl_cycle {f t : Nat} (hft : f ≤ t) (ht : t < n) (h1 : ∀ i, f < i → i ≤ t → nmK (i - 1) ∈ inpN (g i)) (h2 : nmK t ∈ inpN (g f)) : OrdT ((List.range n).map g) none := by
  refine ⟨((List.range n).map g).map sqN, List.Perm.refl _, gl_rise hg hn, ?_⟩
  symm
  refine ordF_none _ (fun r => ∃ j, f ≤ j ∧ j ≤ t ∧ r = nmK j) rfl ⟨sqN (g f), List.mem_map_of_mem (List.mem_map_of_mem (List.mem_range.2 (by omega))), f, Nat.le_refl _, hft, hg f⟩ ?_ (fun r hr => by cases hr)
  rintro s hs ⟨j, hj1, hj2, hj3⟩
  obtain ⟨x, hx, rfl⟩ := List.mem_map.1 hs
  obtain ⟨i, hi, rfl⟩ := List.mem_map.1 hx
  have hi2 := List.mem_range.1 hi
  have e : i = j := nmK_inj i (by omega) j (by omega) ((hg i).symm.trans hj3)
  subst e
  by_cases e : i = f
  · subst e
    exact ⟨nmK t, h2, t, hft, Nat.le_refl _, rfl⟩
  · exact ⟨nmK (i - 1), h1 i (by omega) hj2, i - 1, by omega, by omega, rfl⟩
theorem gl_chk (hm : ∀ i, i < n → mayB (g i) = true) (hi : ∀ i, i < n → ∀ r ∈ inpN (g i), ∃ j, j < n ∧ r = nmK j) (h0 : 0 < n) {r : Option (List ByteArray)} (ho : OrdT ((List.range n).map g) r) : chkN (nmK (n - 1)) ((List.range n).map g) = if r = none then 121 else 0 := by
  have hd := gl_nodup hg hn
  have h6 : ((List.range n).map g).any (fun x => !mayB x) = false := List.any_eq_false.2 fun x hx => by
    obtain ⟨i, hi, rfl⟩ := List.mem_map.1 hx
    rw [hm i (List.mem_range.1 hi)]; decide
  have ht : thB (byN ((List.range n).map g)) (allI ((List.range n).map g) ++ [nmK (n - 1)]) = true := by
    unfold thB
    rw [List.all_eq_true]
    intro s hs
    have hs2 : IsR ((List.range n).map g) s := by
      rcases List.mem_append.1 hs with hs | hs
      · obtain ⟨x, hx, hxr⟩ := List.mem_flatMap.1 hs
        obtain ⟨i, hi2, rfl⟩ := List.mem_map.1 hx
        exact (gl_is hg hn).2 (hi i (List.mem_range.1 hi2) s hxr)
      · rw [List.mem_singleton.1 hs]
        exact (gl_is hg hn).2 ⟨n - 1, by omega, rfl⟩
    have := (asc_is hd).2 hs2
    cases e : asc s (byN ((List.range n).map g)) with
    | none => exact absurd e this
    | some y => rfl
  unfold chkN
  rw [if_neg (by simp; omega), if_neg (by rw [h6]; decide), if_neg (fun h => h hd), if_neg (by rw [ht]; decide), ordN_is ho]
end
theorem need_K {n : Nat} (hn : n ≤ 10) (h0 : 0 < n) {L : List ByteArray} (q : NdQ ((List.range n).map ndK) (nmK (n - 1)) L) : L.length = n := by
  have hg : ∀ i, (ndK i).ref = nmK i := fun i => rfl
  have hall : ∀ k, k < n → nmK (n - 1 - k) ∈ L := by
    intro k
    induction k with
    | zero => exact fun _ => q.has ((gl_is hg hn).2 ⟨n - 1, by omega, rfl⟩)
    | succ k ih =>
      intro hk
      have h1 := ih (by omega)
      have := q.clo _ h1 (ndK (n - 1 - k)) (List.mem_map_of_mem (List.mem_range.2 (by omega))) rfl (nmK (n - 1 - k - 1)) ((inK (by omega)).2 ⟨by omega, rfl⟩) ((gl_is hg hn).2 ⟨n - 1 - k - 1, by omega, rfl⟩)
      exact this
  have hp : L.Perm ((List.range n).map nmK) := nodup_perm q.nod (by rw [← gl_refs hg hn]; exact gl_nodup hg hn) fun s => by
    constructor
    · intro hs
      obtain ⟨j, hj, rfl⟩ := (gl_is hg hn).1 (q.are s hs)
      exact List.mem_map_of_mem (List.mem_range.2 hj)
    · intro hs
      obtain ⟨j, hj, rfl⟩ := List.mem_map.1 hs
      have hj2 := List.mem_range.1 hj
      have := hall (n - 1 - j) (by omega)
      rwa [show n - 1 - (n - 1 - j) = j by omega] at this
  have := hp.length_eq
  simpa using this
end Go.Proofs.YtaffplmfnincfaaGreatDoor
