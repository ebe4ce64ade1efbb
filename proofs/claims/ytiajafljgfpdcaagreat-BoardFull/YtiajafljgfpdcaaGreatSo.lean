/- compareLabel, slices.SortFunc at labels, slices.Grow of nil, slices.Concat, sorted. -/
import Derived.Test.YtiajafljgfpdcaaGreatLs
import Derived.Test.YtiajafljgfpdcaaGreatSh
import Derived.Lib.AppendZeros
import Derived.Sort.OwnSorted
namespace Go.Proofs.YtiajafljgfpdcaaGreat
set_option linter.unusedVariables false
open Go.RowKit Go.Sort Go.Shelf
theorem compare_list : ∀ x y : List UInt8, Lib.compareBytes x y = cmpL (x.map fun b => (b.toNat : Int)) (y.map fun b => (b.toNat : Int))
  | [], [] => by simp [Lib.compareBytes, cmpL]
  | [], _ :: _ => by simp [Lib.compareBytes, cmpL]
  | _ :: _, [] => by simp [Lib.compareBytes, cmpL]
  | a :: x, b :: y => by
    have ih := compare_list x y
    rw [Lib.compareBytes, List.map_cons, List.map_cons, cmpL, ih]
    have e1 : (a < b) ↔ (a.toNat : Int) < (b.toNat : Int) := by rw [UInt8.lt_iff_toNat_lt]; omega
    have e2 : (b < a) ↔ (b.toNat : Int) < (a.toNat : Int) := by rw [UInt8.lt_iff_toNat_lt]; omega
    by_cases h1 : a < b
    · rw [if_pos h1, if_pos (e1.1 h1)]
    · rw [if_neg h1, if_neg (fun h => h1 (e1.2 h))]
      by_cases h2 : b < a
      · rw [if_pos h2, if_pos (e2.1 h2)]
      · rw [if_neg h2, if_neg (fun h => h2 (e2.2 h))]
theorem compare_str (a b : ByteArray) : Lib.compareBytes a.data.toList b.data.toList = cmpL (numsS a) (numsS b) := compare_list _ _
theorem scmp_any (a b : ByteArray) (w : World) : Calls Tryz.prog 109 #[.string a, .string b] w fun e w' => e = .returned (.int .i64 (cmpL (numsS a) (numsS b))) ∧ w' = w := by
  rw [← compare_str]; exact Tryz.strings_Compare a b w
set_option maxRecDepth 100000 in
set_option maxHeartbeats 1000000 in
theorem compareLabel_any (x y : Lb) (w : World) : Calls Tryz.prog 84 #[lbV x, lbV y] w fun e w' => e = .returned (.int .i64 (cmpB x y)) ∧ ∃ q os, w' = grow (w.drewN q) os := by
  obtain ⟨n1, v1⟩ := x
  obtain ⟨n2, v2⟩ := y
  have h1 := fun W => scmp_any n1 n2 W
  have h2 := fun W => scmp_any v1 v2 W
  unfold lbV
  simp only
  by_cases hn : n1 = n2
  · subst hn
    have hc : Hid (cmpB ⟨n1, v1⟩ ⟨n1, v2⟩ = cmpL (numsS v1) (numsS v2)) := by
      show _ = _
      unfold cmpB
      simp only [cmpL_self, if_true]
    go_enter Tryz.func84, Tryz.ntmps84
    go_wp2_with (first | (go_at_call 109; refine (h2 _).mono ?_; rintro e wx ⟨rfl, hwx⟩; subst wx))
    go_ret
    exact ⟨by rw [hc.out]; rfl, 0, _, by rw [alloc_eq_grow, alloc_eq_grow, grow_grow]; rfl⟩
  · have hne := toList_ne hn
    have hc : Hid (cmpB ⟨n1, v1⟩ ⟨n2, v2⟩ = cmpL (numsS n1) (numsS n2)) := by
      show _ = _
      unfold cmpB
      simp only
      rw [if_neg (fun h => hn (numsS_inj (cmpL_eq h)))]
    clear hn
    go_enter Tryz.func84, Tryz.ntmps84
    go_wp2_with (first | (go_at_call 109; refine (h1 _).mono ?_; rintro e wx ⟨rfl, hwx⟩; subst wx))
    go_ret
    exact ⟨by rw [hc.out]; rfl, 0, _, by rw [alloc_eq_grow, alloc_eq_grow, grow_grow]; rfl⟩
theorem below_grow (w : World) (q : Nat) (os : Array Obj) : Below w.heap.size w (grow (w.drewN q) os) := by
  refine ⟨rfl, rfl, rfl, ?_, fun k hk => ?_⟩
  · show w.heap.size ≤ (w.heap ++ os).size
    simp
  · show (w.heap ++ os)[k]? = _
    rw [Array.getElem?_append_left hk]
theorem compareLabel_bel (x y : Lb) (w : World) : Calls Tryz.prog 84 #[lbV x, lbV y] w fun e w' => e = .returned (.int .i64 (cmpB x y)) ∧ Below w.heap.size w w' :=
  (compareLabel_any x y w).mono fun _ _ ⟨he, q, os, hw⟩ => ⟨he, hw ▸ below_grow w q os⟩
/-! ### slices.SortFunc -/
theorem flatK_flat (l : List Lb) : flatK encL.arr 2 l.toArray = (flat encL l).toArray := by
  refine ext_get! (by simp [flat_len]; rfl) fun t ht => ?_
  have ht' : t < l.length * 2 := by simpa using ht
  rw [get_flatK _ _ _ t (by simpa using ht')]
  have hd : t / 2 < l.length := by omega
  have h := flat_get (E := encL) l (t / 2) (t % 2) hd (Nat.mod_lt _ (by decide))
  rw [show t / 2 * encL.k + t % 2 = t by show t / 2 * 2 + t % 2 = t; omega] at h
  have e1 : l.toArray[t / 2]! = l.getD (t / 2) encL.d := by
    rw [getElem!_pos _ _ (by simpa using hd)]; simp [hd]
  rw [e1]
  have e2 : (flat encL l).toArray[t]! = (flat encL l)[t]?.getD default := by simp [Array.getElem!_eq_getD, Array.getD_eq_getD_getElem?]
  rw [e2, h]
  simp
theorem putCells_take (cur F : Array Value) (h : F.size ≤ cur.size) : (putCells id 0 F cur).toList.take F.size = F.toList := by
  apply List.ext_getElem?
  intro j
  by_cases hj : j < F.size
  · rw [List.getElem?_take_of_lt hj, Array.getElem?_toList, Array.getElem?_toList]
    simp [putCells, hj, show j < cur.size by omega]
  · rw [List.getElem?_take_eq_none (by omega), List.getElem?_eq_none (by simp; omega)]
theorem heap_sortedK {w : World} {g n : Nat} {os : Array Obj} {cur : Array Value} {e : TypeId} {fr : Nat × Nat} (F : Array Value) (hb : w.heap[g]? = some (.cells cur e fr)) :
    (grow (putRow id (Sort.ahead w n) g 0 F) os).heap[g]? = some (.cells (putCells id 0 F cur) e fr) := by
  have hg : g < w.heap.size := (Array.getElem?_eq_some_iff.1 hb).1
  rw [heap_grow_old _ _ (by simpa using hg)]
  simp [putRow, mapBlock, Sort.ahead, Array.getElem?_modify, hb, onCells]
theorem grownBy_sortedK {w : World} {g n : Nat} {os : Array Obj} (F : Array Value) : w.grownBy (grow (putRow id (Sort.ahead w n) g 0 F) os) (some g) := by
  refine ⟨rfl, rfl, rfl, by simp, fun k hk hne => ?_⟩
  rw [heap_grow_old _ _ (by simpa using hk)]
  have : g ≠ k := fun e => hne (by rw [e])
  simp [putRow, mapBlock, Sort.ahead, Array.getElem?_modify, this]
theorem sort_any (base : Nat) (v : Value) (l : List Lb) (w : World) (hown : OwnL w base v l) (hl : l.length ≤ 1000000) : Calls Tryz.prog 144 #[v, .func (.func 84) #[] #[]] w fun e w' => e = .returned (.tuple #[]) ∧ OwnL w' base v (sortL l) ∧ w.grownBy w' v.ownBlock := by
  rcases hown.2 with ⟨rfl, h0⟩ | ⟨g, cap, cur, rfl, hbg, hg, hnc, hcm, hcs, htake⟩
  · have : l = [] := List.length_eq_zero_iff.1 h0
    subst this
    have := AnyF.slices_SortFunc_none Tryz.sortL none 0 (.func (.func 84) #[] #[]) w
    change Calls Tryz.prog 144 _ _ _ at this
    refine this.mono ?_
    rintro e w' ⟨rfl, rfl⟩
    have h0 : sortL [] = [] := by simp [sortL]
    rw [h0]
    exact ⟨rfl, OwnS.nil _ _, grown_refl _ _⟩
  · have eg : ∀ args w, (callFunc 84 args).run Tryz.prog w = .ok (.enter 84 args) w := enters_of Tryz.func84 (by kernel_rfl) rfl
    have hgl : g < w.heap.size := (Array.getElem?_eq_some_iff.1 hg).1
    have hH : HoldsK encL.arr 2 w g 0 l.toArray := by
      unfold HoldsK
      rw [flatK_flat]
      intro j hj
      have hj' : j < l.length * encL.k := by simpa [flat_len] using hj
      refine ⟨?_, by simp [World.frozen?, hg]⟩
      have hf : j < (flat encL l).length := by rw [flat_len]; exact hj'
      have := World.ownsRow.cells hown (g := g) rfl j ((flat encL l)[j]) (List.getElem?_eq_getElem hf)
      rw [add_at] at this
      rw [this, getElem!_pos _ _ (by simpa using hf)]
      simp
    have hcon := AnyQ.slices_SortFunc_total Tryz.sortL 2 Tryz.isAgg70 Tryz.sizeOf70 encL.arr (fun _ => rfl) encL.one cmpB swo_lb 84 #[] g 0 cap l.toArray w eg (fun _ _ _ _ x y => compareLabel_any x y _) hH hgl (by simp; omega) lt_tot
    change Calls Tryz.prog 144 _ _ _ at hcon
    simp only [List.size_toArray] at hcon
    refine hcon.mono ?_
    rintro e w' ⟨rfl, n, os, rfl⟩
    have hsl : (l.mergeSort fun x y => !(ltOf cmpB) y x) = sortL l := rfl
    simp only [hsl]
    unfold sortWorldK putRowK
    rw [flatK_flat]
    have hlen : (sortL l).length = l.length := (sortL_perm l).length_eq
    refine ⟨trivial, ?_, grownBy_sortedK _⟩
    show World.ownsRow _ _ _ _ _ _ _
    unfold World.ownsRow
    rw [hlen]
    refine ⟨by rw [flat_len, hlen], .inr ⟨g, cap, _, rfl, hbg, heap_sortedK _ hg, hnc, hcm, by simp [putCells]; exact hcs, ?_⟩⟩
    have hfs : (flat encL (sortL l)).toArray.size = l.length * encL.k := by simp [flat_len, hlen]
    rw [← hfs]
    refine putCells_take cur _ ?_
    rw [hfs, hcs]
    exact Nat.mul_le_mul_right _ hnc
/-! ### slices.Grow, slices.Concat, sorted -/
theorem info52 : (Tryz.prog.info? 70).map (fun i => (i.zero, i.size, i.bytes)) = some (some (.agg #[.string ⟨#[]⟩, .string ⟨#[]⟩]), 2, 32) := TL.hi
set_option maxRecDepth 100000 in
set_option maxHeartbeats 2000000 in
theorem grow_nil (n : Nat) (w : World) (hn : n ≤ 100000000) : Calls Tryz.prog 160 #[.slice none 0 0, .int .i64 n] w fun e w' => ∃ v, e = .returned v ∧ OwnL w' w.heap.size v [] ∧ Below w.heap.size w w' := by
  by_cases h0 : n = 0
  · subst h0
    go_enter Tryz.func160, Tryz.ntmps160
    go_wp2_with fail
    go_ret
    exact ⟨_, rfl, OwnS.nil _ _, Below.refl _ _⟩
  · have d1 : decide ((n : Int) < 0) = false := by simp
    have d2 : (0 : Int) < (n : Int) := by omega
    obtain ⟨i0, hi, hz0, hz1, hz2⟩ := info_parts info52
    have hr := Lib.run_append_nil_zeros (P := Tryz.prog) w 24 3 24 70 i0 _ .i64 .i64 Tryz.underlying24 Tryz.underlying3 hi hz0 n (by omega) (by rw [hz1]; decide) (by omega) (by rw [hz2]; show n * 32 ≤ _; omega)
    have hcap := grownCap_ge w n 0 70
    have hcm := grownCap_le_maxLen w n 0 70 (by unfold maxLen; omega)
    generalize grownCap w n 0 70 = cap at *
    have ho := World.ownsRow_made (base := w.heap.size) (e := 70) (size := 2) w.drew (Builtin.zeroCells (Value.agg #[.string ⟨#[]⟩, .string ⟨#[]⟩]).cells n ++ Builtin.zeroCells (Value.agg #[.string ⟨#[]⟩, .string ⟨#[]⟩]).cells (cap - n)) cap (Nat.le_refl _) hcm (by rw [Array.size_append, size_zeroCells, size_zeroCells]; simp [Value.cells]; omega)
    go_enter Tryz.func160, Tryz.ntmps160
    go_wp2_with (first | (at_builtin; refine Lib.wpList_append_run _ rfl _ _ 24 3 rfl (.slice none 0 0) (.int .i64 (n : Int)) rfl rfl _ _ hr ?_))
    go_ret
    exact ⟨_, rfl, ho, ((Below.refl _ w).drew).alloc (Nat.le_refl _) _⟩
/-- A slice of lists of labels. -/
def Lss (w : World) (v : Value) (ls : List (List Lb)) : Prop := ∃ b o c, v = .slice (some ⟨b, o, none⟩) ls.length c ∧ ∀ t, t < ls.length → ∃ u, w.cell? ⟨b, o + t, none⟩ = some u ∧ Lbs w u (ls.getD t [])
def totL (ls : List (List Lb)) : Nat := (ls.map List.length).sum
theorem totL_take (ls : List (List Lb)) (k : Nat) (h : k < ls.length) : totL (ls.take (k + 1)) = totL (ls.take k) + (ls.getD k []).length := by
  unfold totL
  rw [List.take_succ_eq_append_getElem h, List.map_append, List.sum_append]
  simp [h]
theorem totL_le (ls : List (List Lb)) (k : Nat) : totL (ls.take k) ≤ totL ls := by
  unfold totL
  have h : (ls.map List.length).sum = ((ls.take k).map List.length).sum + ((ls.drop k).map List.length).sum := by
    rw [← List.sum_append, ← List.map_append, List.take_append_drop]
  omega
theorem flatten_take (ls : List (List Lb)) (k : Nat) (h : k < ls.length) : (ls.take (k + 1)).flatten = (ls.take k).flatten ++ ls.getD k [] := by
  rw [List.take_succ_eq_append_getElem h, List.flatten_append]
  simp [h]
theorem flatten_len (ls : List (List Lb)) : ls.flatten.length = totL ls := by unfold totL; rw [List.length_flatten]
set_option maxRecDepth 100000 in
set_option maxHeartbeats 4000000 in
theorem concat_any (v : Value) (ls : List (List Lb)) (w : World) (h : Lss w v ls) (hl : ls.length ≤ 1000) (ht : totL ls ≤ 100000000) :
    Calls Tryz.prog 143 #[v] w fun e w' => ∃ v', e = .returned v' ∧ OwnL w' w.heap.size v' ls.flatten ∧ Below w.heap.size w w' := by
  obtain ⟨b, o, c, rfl, hcs⟩ := h
  obtain ⟨n, hn⟩ : ∃ n, Hid (n = ls.length) := ⟨_, rfl⟩
  rw [← hn.out]
  have hn3 : n ≤ 1000 := by rw [hn.out]; exact hl
  have hg : Hid (∀ W, Below w.heap.size w W → ∀ t, t < n → ∃ u, W.cell? ⟨b, o + t, none⟩ = some u ∧ Lbs W u (ls.getD t [])) := by
    show ∀ W, _ → _
    intro W hW t htn
    obtain ⟨u, h1, h2⟩ := hcs t (by rw [← hn.out]; exact htn)
    exact ⟨u, (hW.cell (p := ⟨b, o + t, none⟩) (World.block_lt_of_cell? w _ h1)).trans h1, h2.grow hW⟩
  obtain ⟨T, hT⟩ : ∃ T, Hid (T = totL ls) := ⟨_, rfl⟩
  have hT3 : T ≤ 100000000 := by rw [hT.out]; exact ht
  have htk : Hid (∀ k, totL (ls.take k) ≤ T) := fun k => by rw [hT.out]; exact totL_le ls k
  clear hcs ht
  go_enter Tryz.func143, Tryz.ntmps143
  go_wp2_with fail
  go_loopw [3, 11] (fun z i wr => ∃ k s : Nat, k ≤ n ∧ i = .int .i64 k ∧ z = .int .i64 s ∧ Hid (s = totL (ls.take k)) ∧ w = wr) (fun _ i _ => n - (intOf i).toNat)
  case atStart => exact ⟨0, 0, Nat.zero_le _, rfl, rfl, rfl, rfl⟩
  case round =>
    obtain ⟨k, s, hk, rfl, rfl, hs, rfl⟩ := hrel
    by_cases hlt : k < n
    · have hki : (k : Int) < (n : Int) := by omega
      obtain ⟨u, hu, hc⟩ := hg.out w (Below.refl _ _) k hlt
      have hst : Hid (s + (ls.getD k []).length = totL (ls.take (k + 1))) := by
        show _ = _
        rw [totL_take ls k (by rw [← hn.out]; exact hlt), ← hs.out]
      have hsT := htk.out (k + 1)
      obtain ⟨au, cu, eu⟩ := hc.shape
      rw [← hst.out] at hsT
      clear hc
      generalize (ls.getD k []).length = q at *
      subst eu
      have hw1 : IntKind.i64.wrap ((s : Int) + (q : Int)) = (s : Int) + (q : Int) := Go.IntWalk.i64_in _ (by omega)
      have hw2 : decide ((s : Int) + (q : Int) < 0) = false := by simp; omega
      go_wp2_with fail
      refine ⟨⟨k + 1, s + q, by omega, by go_num, by go_num, hst, trivial⟩, ?_⟩
      simp [intOf]; omega
    · obtain rfl : k = n := by omega
      have hkd : decide ((k : Int) < (k : Int)) = false := by simp
      have hs2 := hs.out
      rw [List.take_of_length_le (by rw [hn.out]; omega)] at hs2
      have hsT := htk.out k
      rw [← hs.out] at hsT
      replace hs2 : Hid _ := hs2
      have hgr := grow_nil s w (by omega)
      go_wp2_with (first | (go_at_call 160; refine hgr.mono ?_; rintro e w1 ⟨v1, rfl, ho1, hb1⟩))
      go_loopw [6, 27] (fun u i wr => ∃ j : Nat, j ≤ k ∧ i = .int .i64 j ∧ OwnL wr w.heap.size u (ls.take j).flatten ∧ Below w.heap.size w wr) (fun _ i _ => k - (intOf i).toNat)
      case atStart => exact ⟨0, Nat.zero_le _, rfl, ho1, hb1⟩
      case round =>
        clear ho1 hb1 hgr
        obtain ⟨j, hj, rfl, hoj, hbj⟩ := hrel
        by_cases hlt2 : j < k
        · have hji : (j : Int) < (k : Int) := by omega
          obtain ⟨u, hu, hc⟩ := hg.out wr hbj j hlt2
          have hft : Hid ((ls.take (j + 1)).flatten = (ls.take j).flatten ++ ls.getD j []) := flatten_take ls j (by rw [← hn.out]; exact hlt2)
          have hlen : (ls.take j).flatten.length + (ls.getD j []).length ≤ 1000000000 := by
            have h1 := htk.out (j + 1)
            rw [totL_take ls j (by rw [← hn.out]; exact hlt2), ← flatten_len] at h1
            omega
          have hsz := hbj.size
          generalize ls.getD j [] = l2 at *
          generalize (ls.take j).flatten = l1 at *
          obtain ⟨au, cu, rfl⟩ := hc.shape
          go_wp2_with (first | (at_builtin; refine appR TL rfl (.tmp 31) (.tmp 32) rfl w.heap.size _ _ l1 l2 rfl rfl hoj hc hsz hlen ?_; intro v2 w2 ho2 hg2))
          refine ⟨⟨j + 1, by omega, by go_num, by rw [hft.out]; exact ho2, hbj.trans (hoj.grows hsz hg2)⟩, ?_⟩
          simp [intOf]; omega
        · obtain rfl : j = k := by omega
          have hjd : decide ((j : Int) < (j : Int)) = false := by simp
          rw [List.take_of_length_le (by rw [hn.out]; omega)] at hoj
          go_wp2_with fail
          go_ret
          exact ⟨_, rfl, hoj, hbj⟩
set_option maxRecDepth 100000 in
set_option maxHeartbeats 2000000 in
/-- labels.sorted. -/
theorem sorted_any (v : Value) (ls : List (List Lb)) (w : World) (h : Lss w v ls) (hl : ls.length ≤ 1000) (ht : totL ls ≤ 1000000) :
    Calls Tryz.prog 123 #[v] w fun e w' => ∃ v', e = .returned v' ∧ OwnL w' w.heap.size v' (sortL ls.flatten) ∧ Below w.heap.size w w' := by
  have hc := concat_any v ls w h hl (by omega)
  have hfl : ls.flatten.length ≤ 1000000 := by rw [flatten_len]; exact ht
  have hs := fun v1 w1 (ho : OwnL w1 w.heap.size v1 ls.flatten) => sort_any w.heap.size v1 ls.flatten w1 ho hfl
  clear h ht hl
  generalize ls.flatten = l at *
  go_enter Tryz.func123, Tryz.ntmps123
  go_wp2_with (first
    | (go_at_call 143; refine hc.mono ?_; rintro e w1 ⟨v1, rfl, ho1, hb1⟩)
    | (go_at_call 144; refine (hs _ _ ho1).mono ?_; rintro e w2 ⟨rfl, ho2, hg2⟩))
  go_ret
  exact ⟨_, rfl, ho2, hb1.trans (ho1.grows hb1.size hg2)⟩
end Go.Proofs.YtiajafljgfpdcaaGreat
