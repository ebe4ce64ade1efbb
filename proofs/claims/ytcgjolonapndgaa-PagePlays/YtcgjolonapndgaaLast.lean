/- The contracts of lasting and of the two closures. -/
import Derived.Test.YtcgjolonapndgaaLay
namespace Go.Proofs.Ytcgjolonapndgaa
open Go.RowKit Go.Maps Go.ChangeMaps Go.MapKept

/-- A slice value whose elements are the numbers xs. -/
def Ints (w : World) (v : Value) (xs : List Int) : Prop :=
  ∃ a c, v = .slice a xs.length c ∧ (xs = [] ∨ ∃ b o, a = some ⟨b, o, none⟩ ∧ ∀ t, t < xs.length → w.cell? ⟨b, o + t, none⟩ = some (.int .i64 (xs.getD t 0)))
/-- A slice value whose elements are torn sectors. -/
def Torns (w : World) (v : Value) (ts : List (Int × Int)) : Prop :=
  ∃ a c, v = .slice a ts.length c ∧ (ts = [] ∨ ∃ b o, a = some ⟨b, o, none⟩ ∧ ∀ t, t < ts.length → w.cell? ⟨b, o + t * 2, none⟩ = some (.int .i64 (ts.getD t (0, 0)).1) ∧ w.cell? ⟨b, o + t * 2 + 1, none⟩ = some (.int .i64 (ts.getD t (0, 0)).2))
def In64 (x : Int) : Prop := -9223372036854775808 ≤ x ∧ x ≤ 9223372036854775807

/-- How many bytes at most. -/
def clamp (size : Nat) (x : Int) : Int := min (max x 0) size
/-- What torn says of sector n: the first that names it. -/
def tornAt (size : Nat) (ts : List (Int × Int)) (n : Int) : Option Int := (ts.find? (fun t => t.1 == n)).map (fun t => clamp size t.2)
theorem tornAt_snoc (size : Nat) (l : List (Int × Int)) (t : Int × Int) : tornAt size (l ++ [t]) = if (tornAt size l t.1).isSome then tornAt size l else upd (tornAt size l) t.1 (some (clamp size t.2)) := by
  funext n
  unfold tornAt upd
  simp only [List.find?_append]
  by_cases e : n = t.1
  · subst e
    cases h : l.find? (fun x => x.1 == t.1) with
    | some y => simp [h]
    | none => simp
  · have h2 : (t.1 == n) = false := by simp; exact fun h => e h.symm
    cases h : l.find? (fun x => x.1 == n) with
    | some y =>
      simp only [Option.some_or, Option.map_some]
      split
      · simp [h]
      · simp [h, e]
    | none =>
      simp only [List.find?_cons, h2, List.find?_nil, Option.none_or, Option.map_none]
      split
      · simp [h]
      · simp [h, e]
theorem clamp_in (size : Nat) (x : Int) : 0 ≤ clamp size x ∧ clamp size x ≤ size := by unfold clamp; omega
theorem tornAt_in (size : Nat) (ts : List (Int × Int)) (n x : Int) (h : tornAt size ts n = some x) : 0 ≤ x ∧ x ≤ size := by
  unfold tornAt at h
  cases hf : ts.find? (fun t => t.1 == n) with
  | some y => rw [hf] at h; cases h; exact clamp_in _ _
  | none => rw [hf] at h; cases h
/-- What keep and torn say of sector n. -/
def lastAt (size : Nat) (keep : List Int) (ts : List (Int × Int)) (n : Int) : Option Int := if n ∈ keep then some (size : Int) else tornAt size ts n
theorem lastAt_snoc (size : Nat) (keep : List Int) (ts : List (Int × Int)) (k : Int) : lastAt size (keep ++ [k]) ts = upd (lastAt size keep ts) k (some (size : Int)) := by
  funext n
  unfold lastAt upd
  by_cases e : n = k
  · simp [e]
  · simp [e]
theorem take_snoc {α : Type} (l : List α) (d : α) (k : Nat) (h : k < l.length) : l.take (k + 1) = l.take k ++ [l.getD k d] := by
  rw [List.take_succ_eq_append_getElem h, List.getD_eq_getElem?_getD, List.getElem?_eq_getElem h]; rfl

section
variable {w : World}
set_option maxRecDepth 100000 in
theorem last41 (cb mb n' : Nat) (m : Int → Option Int) (hc : w.cell? ⟨cb, 0, none⟩ = some (.map (some mb))) (hm : IMap w mb n' m) (n : Int) (h1 : -9223372036854775808 ≤ n) (h2 : n ≤ 9223372036854775807) :
    Calls Try.prog 59 #[.int .i64 n, .pointer (some ⟨cb, 0, none⟩)] w fun e w' => e = .returned (.int .i64 ((m n).getD 0)) ∧ w' = w := by
  have hlk := hm.look h1 h2
  go_enter Try.func59, Try.ntmps59
  go_wp2
  go_ret
  exact ⟨rfl, rfl⟩
set_option maxRecDepth 100000 in
theorem sync36 (cb p : Nat) (size : Int) (hc : w.cell? ⟨cb, 0, none⟩ = some (.pointer (some ⟨p, 0, none⟩))) (hs : w.cell? ⟨p, 1, none⟩ = some (.int .i64 size)) (n : Int) :
    Calls Try.prog 49 #[.int .i64 n, .pointer (some ⟨cb, 0, none⟩)] w fun e w' => e = .returned (.int .i64 size) ∧ w' = w := by
  go_enter Try.func49, Try.ntmps49
  go_wp2
  go_ret
  exact ⟨rfl, rfl⟩

/-- What lasting hands back, in memory. -/
def LastF (w W : World) (size : Nat) (keep : List Int) (ts : List (Int × Int)) (v : Value) : Prop :=
  ∃ n', v = .func (.func 59) #[] #[.pointer (some ⟨w.heap.size + 1, 0, none⟩)] ∧ W.heap[w.heap.size + 1]? = some (.cells #[.map (some w.heap.size)] 102 (0, 0)) ∧ IMap W w.heap.size n' (lastAt size keep ts) ∧ Below w.heap.size w W

set_option maxRecDepth 100000 in
set_option maxHeartbeats 4000000 in
theorem lasting_any (size : Nat) (keep : List Int) (ts : List (Int × Int)) (vk vt : Value) (hz : size ≤ 1024) (hk : Ints w vk keep) (ht : Torns w vt ts) (hkl : keep.length ≤ 140737488355328) (htl : ts.length ≤ 140737488355328)
    (hki : ∀ x ∈ keep, In64 x) (hti : ∀ t ∈ ts, In64 t.1 ∧ In64 t.2) :
    Calls Try.prog 51 #[.int .i64 size, vk, vt] w fun e w' => ∃ v, e = .returned v ∧ LastF w w' size keep ts v := by
  obtain ⟨ak, ck, rfl, hk⟩ := hk
  obtain ⟨at', ct, rfl, ht⟩ := ht
  have hmm := @run_makeMap Try.prog
  obtain ⟨kl, hkl'⟩ : ∃ kl, Hid (kl = keep.length) := ⟨_, rfl⟩
  obtain ⟨tl, htl'⟩ : ∃ tl, Hid (tl = ts.length) := ⟨_, rfl⟩
  rw [← hkl'.out, ← htl'.out]
  rw [← hkl'.out] at hkl
  rw [← htl'.out] at htl
  go_enter Try.func51, Try.ntmps51
  go_wp2
  go_loopw [17] (fun i wr => ∃ k : Nat, k ≤ tl ∧ i = .int .i64 k ∧ wr.heap[w.heap.size + 1]? = some (.cells #[.map (some w.heap.size)] 102 (0, 0)) ∧ IMap wr w.heap.size k (tornAt size (ts.take k)) ∧ Below w.heap.size w wr) (fun i _ => tl - (intOf i).toNat)
  case atStart =>
    refine ⟨0, Nat.zero_le _, rfl, ?_, ?_, ?_⟩
    · have := (heap_alloc (w.alloc (.map #[] 0)) (.cells #[.map (some w.heap.size)] 102)).1
      rwa [World.size_alloc] at this
    · exact (iMap_made w).keep ((heap_alloc (w.alloc (.map #[] 0)) _).2 _ (by simp))
    · exact ((Below.refl _ w).alloc (Nat.le_refl _) _).alloc (by simp) _
  case round =>
    obtain ⟨k, hkt, rfl, hbox, him, hbe⟩ := hrel
    by_cases hlt : k < tl
    · rcases ht with h0 | ⟨b, o, rfl, ht⟩
      · have := htl'.out; rw [h0] at this; simp at this; omega
      · obtain ⟨hc1, hc2⟩ := ht k (by have := htl'.out; omega)
        have hsn : Hid (ts.take (k + 1) = ts.take k ++ [ts.getD k (0, 0)]) := take_snoc ts (0, 0) k (by have := htl'.out; omega)
        have htk := hti (ts.getD k (0, 0)) (by
          have := htl'.out
          rw [List.getD_eq_getElem?_getD, List.getElem?_eq_getElem (by omega)]; simp)
        generalize ts.getD k (0, 0) = t at hc1 hc2 hsn htk
        have hc1' := (hbe.cell (p := ⟨b, o + k * 2, none⟩) (World.block_lt_of_cell? w _ hc1)).trans hc1
        have hc2' := (hbe.cell (p := ⟨b, o + k * 2 + 1, none⟩) (World.block_lt_of_cell? w _ hc2)).trans hc2
        clear ht hc1 hc2
        obtain ⟨t1, t2⟩ := t
        simp only at hc1' hc2' htk
        obtain ⟨⟨ta1, ta2⟩, ⟨tb1, tb2⟩⟩ := htk
        obtain ⟨O, hO⟩ : ∃ O, Hid (O = Obj.cells #[.int .i64 t1, .int .i64 t2] 93) := ⟨_, rfl⟩
        have hlt1 : w.heap.size + 1 < wr.heap.size := (Array.getElem?_eq_some_iff.1 hbox).1
        have hbox2 : (wr.alloc (Obj.cells #[.int .i64 t1, .int .i64 t2] 93)).heap[w.heap.size + 1]? = some (.cells #[.map (some w.heap.size)] 102 (0, 0)) := ((heap_alloc wr _).2 _ hlt1).trans hbox
        have hcb : (wr.alloc (Obj.cells #[.int .i64 t1, .int .i64 t2] 93)).cell? ⟨w.heap.size + 1, 0, none⟩ = some (.map (some w.heap.size)) := by simp [World.cell?, hbox2]
        have him2 : IMap (wr.alloc (Obj.cells #[.int .i64 t1, .int .i64 t2] 93)) w.heap.size k (tornAt size (ts.take k)) := him.keep ((heap_alloc wr _).2 _ him.lt)
        have hbe2 : Below w.heap.size w (wr.alloc (Obj.cells #[.int .i64 t1, .int .i64 t2] 93)) := hbe.alloc (by omega) _
        have hlk := him2.look_ok ta1 ta2
        have hsn' := tornAt_snoc size (ts.take k) (t1, t2)
        rw [← hsn.out] at hsn'
        simp only at hsn'
        cases hp : (tornAt size (ts.take k) t1).isSome with
        | true =>
          rw [hp] at hlk hsn'
          rw [if_pos rfl] at hsn'
          replace hsn' : Hid _ := hsn'
          go_wp2
          go_roundw
          case rel => exact ⟨k + 1, by omega, by go_num, hbox2, by rw [hsn'.out]; exact ⟨him2.1.mono (Nat.le_succ _), him2.2⟩, hbe2⟩
          case measure => simp [intOf]; omega
        | false =>
          rw [hp] at hlk hsn'
          rw [if_neg (by simp)] at hsn'
          have key : ∀ z, z = clamp size t2 → ∃ W2, (Instr.mapUpdate 102 (.map (some w.heap.size)) (.int .i64 t1) (.int .i64 z)).run Try.prog (wr.alloc (Obj.cells #[.int .i64 t1, .int .i64 t2] 93)) = .ok () W2 ∧ Hid (W2.heap[w.heap.size + 1]? = some (.cells #[.map (some w.heap.size)] 102 (0, 0)) ∧ IMap W2 w.heap.size (k + 1) (tornAt size (ts.take (k + 1))) ∧ Below w.heap.size w W2) := by
            rintro z rfl
            have hcl := clamp_in size t2
            obtain ⟨W2, h1, h2, h3⟩ := him2.update (by unfold maxLen; omega) ta1 ta2 (x := clamp size t2) (by omega) (by omega)
            refine ⟨W2, h1, ?_, ?_, ?_⟩
            · exact (h3.grown.block _ (by simp; omega) (fun e => by have := Option.some.inj e; omega)).trans hbox2
            · rw [hsn']; exact h2
            · exact hbe2.grown h3.grown hbe2.size (fun j e => by cases e; exact Nat.le_refl _)
          replace hsn' : Hid _ := hsn'
          have hz0 : (0 : Int) ≤ size := by omega
          rcases Int.lt_or_le t2 0 with hneg | hpos
          · obtain ⟨W2, hup, hW2⟩ := key 0 (by unfold clamp; omega)
            clear key
            go_wp2
            go_roundw
            case rel => exact ⟨k + 1, by omega, by go_num, hW2.out⟩
            case measure => simp [intOf]; omega
          · rcases Int.lt_or_le size t2 with hbig | hsm
            · obtain ⟨W2, hup, hW2⟩ := key size (by unfold clamp; omega)
              clear key
              go_wp2
              go_roundw
              case rel => exact ⟨k + 1, by omega, by go_num, hW2.out⟩
              case measure => simp [intOf]; omega
            · obtain ⟨W2, hup, hW2⟩ := key t2 (by unfold clamp; omega)
              clear key
              go_wp2
              go_roundw
              case rel => exact ⟨k + 1, by omega, by go_num, hW2.out⟩
              case measure => simp [intOf]; omega
    · obtain rfl : k = tl := by omega
      have him1 : IMap wr w.heap.size k (lastAt size (keep.take 0) ts) := by
        have e : lastAt size (keep.take 0) ts = tornAt size (ts.take k) := by
          funext n
          simp [lastAt, htl'.out]
        rw [e]; exact him
      clear him
      go_wp2
      go_loopw [41] (fun i w2 => ∃ j : Nat, j ≤ kl ∧ i = .int .i64 j ∧ w2.heap[w.heap.size + 1]? = some (.cells #[.map (some w.heap.size)] 102 (0, 0)) ∧ IMap w2 w.heap.size (k + j) (lastAt size (keep.take j) ts) ∧ Below w.heap.size w w2) (fun i _ => kl - (intOf i).toNat)
      case atStart => exact ⟨0, Nat.zero_le _, rfl, hbox, him1, hbe⟩
      case round =>
        obtain ⟨j, hjk, rfl, hbox2, him2, hbe2⟩ := hrel
        clear him1 hbox hbe
        by_cases hlt2 : j < kl
        · rcases hk with h0 | ⟨b, o, rfl, hk⟩
          · have := hkl'.out; rw [h0] at this; simp at this; omega
          · have hc1 := hk j (by have := hkl'.out; omega)
            have hsn : Hid (keep.take (j + 1) = keep.take j ++ [keep.getD j 0]) := take_snoc keep 0 j (by have := hkl'.out; omega)
            have htk := hki (keep.getD j 0) (by
              have := hkl'.out
              rw [List.getD_eq_getElem?_getD, List.getElem?_eq_getElem (by omega)]; simp)
            have hsn' := lastAt_snoc size (keep.take j) ts (keep.getD j 0)
            rw [← hsn.out] at hsn'
            replace hsn' : Hid _ := hsn'
            generalize keep.getD j 0 = x at hc1 hsn htk hsn'
            obtain ⟨ta1, ta2⟩ := htk
            have hc1' := (hbe2.cell (p := ⟨b, o + j, none⟩) (World.block_lt_of_cell? w _ hc1)).trans hc1
            have hcb : wr.cell? ⟨w.heap.size + 1, 0, none⟩ = some (.map (some w.heap.size)) := by simp [World.cell?, hbox2]
            have hlt1 : w.heap.size + 1 < wr.heap.size := (Array.getElem?_eq_some_iff.1 hbox2).1
            obtain ⟨W2, hup, h2, h3⟩ := him2.update (by unfold maxLen; omega) ta1 ta2 (x := (size : Int)) (by omega) (by omega)
            have hW2 : Hid (W2.heap[w.heap.size + 1]? = some (.cells #[.map (some w.heap.size)] 102 (0, 0)) ∧ IMap W2 w.heap.size (k + (j + 1)) (lastAt size (keep.take (j + 1)) ts) ∧ Below w.heap.size w W2) := by
              refine ⟨?_, ?_, ?_⟩
              · exact (h3.grown.block _ hlt1 (fun e => by have := Option.some.inj e; omega)).trans hbox2
              · rw [hsn'.out]; exact h2
              · exact hbe2.grown h3.grown hbe2.size (fun j e => by cases e; exact Nat.le_refl _)
            clear hk hc1 h2 h3
            go_wp2
            go_roundw
            case rel => exact ⟨j + 1, by omega, by go_num, hW2.out⟩
            case measure => simp [intOf]; omega
        · obtain rfl : j = kl := by omega
          have hfin : Hid (IMap wr w.heap.size (k + j) (lastAt size keep ts)) := by
            have e : keep.take j = keep := by rw [hkl'.out, List.take_length]
            rw [e] at him2; exact him2
          go_wp2
          go_ret
          exact ⟨_, rfl, _, rfl, hbox2, hfin.out, hbe2⟩
end
end Go.Proofs.Ytcgjolonapndgaa
