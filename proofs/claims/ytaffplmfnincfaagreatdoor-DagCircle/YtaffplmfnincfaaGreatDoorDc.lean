/- Refs: mathematics; Inputs. -/
import Derived.Test.YtaffplmfnincfaaGreatDoorDb
import Derived.Test.YtaffplmfnincfaaGreatDoorQf
import Derived.Test.YtaffplmfnincfaaGreatDoorQr
namespace Go.Proofs.YtaffplmfnincfaaGreatDoor
set_option linter.unusedVariables false
open Go.RowKit
theorem keeps_at {d : Array (List UInt8)} {j : Nat} : Lib.keeps d j = true ↔ j = 0 ∨ d[j]! ≠ d[j - 1]! := by
  unfold Lib.keeps
  simp
theorem compact_mem {zs : List (List UInt8)} {x : List UInt8} (h : x ∈ zs) : x ∈ Lib.compact zs := by
  obtain ⟨i, hi, rfl⟩ := List.getElem_of_mem h
  have hg : ∀ k (hk : k < zs.length), zs.toArray[k]! = zs[k] := fun k hk => by simp [hk]
  have key : ∀ n i (hi : i < zs.length), i ≤ n → zs[i] ∈ Lib.compact zs := by
    intro n
    induction n with
    | zero =>
      intro i hi h0
      obtain rfl : i = 0 := by omega
      unfold Lib.compact Lib.compactUpTo
      rw [List.mem_map]
      exact ⟨0, by simp [keeps_at, hi], hg 0 hi⟩
    | succ n ih =>
      intro i hi hn
      by_cases hk : Lib.keeps zs.toArray i = true
      · unfold Lib.compact Lib.compactUpTo
        rw [List.mem_map]
        exact ⟨i, by simp [hk, hi], hg i hi⟩
      · have h2 : ¬ (i = 0 ∨ zs.toArray[i]! ≠ zs.toArray[i - 1]!) := fun h => hk (keeps_at.2 h)
        have h3 : i ≠ 0 := fun e => h2 (.inl e)
        have h4 : zs.toArray[i]! = zs.toArray[i - 1]! := Classical.not_not.1 fun e => h2 (.inr e)
        rw [hg i hi, hg (i - 1) (by omega)] at h4
        rw [h4]
        exact ih (i - 1) (by omega) (by omega)
  exact key i i hi (Nat.le_refl _)
theorem compact_nodup {zs : List (List UInt8)} (h : zs.Pairwise (· ≤ ·)) : (Lib.compact zs).Nodup := by
  have hg : ∀ k (hk : k < zs.length), zs.toArray[k]! = zs[k] := fun k hk => by simp [hk]
  have hle : ∀ i j (hi : i < zs.length) (hj : j < zs.length), i ≤ j → zs[i] ≤ zs[j] := fun i j hi hj hij => by
    rcases Nat.lt_or_ge i j with h1 | h1
    · exact List.pairwise_iff_getElem.1 h i j hi hj h1
    · obtain rfl : i = j := by omega
      exact List.le_refl _
  unfold Lib.compact Lib.compactUpTo
  rw [List.Nodup, List.pairwise_map]
  have hr : ((List.range zs.length).filter (Lib.keeps zs.toArray)).Pairwise (· < ·) := List.Pairwise.filter _ (List.pairwise_lt_range)
  refine hr.imp_of_mem ?_
  intro i j hi hj hij e
  have hi1 : i < zs.length := by have := (List.mem_filter.1 hi).1; simpa using this
  have hj1 : j < zs.length := by have := (List.mem_filter.1 hj).1; simpa using this
  have hk := keeps_at.1 (List.mem_filter.1 hj).2
  rcases hk with hk | hk
  · omega
  · apply hk
    rw [hg i hi1, hg j hj1] at e
    rw [hg j hj1, hg (j - 1) (by omega)]
    refine List.le_antisymm ?_ (hle (j - 1) j (by omega) hj1 (by omega))
    rw [← e]
    exact hle i (j - 1) hi1 (by omega) (by omega)
theorem srt_sorted (l : List (List UInt8)) : (l.mergeSort fun x y => decide (x ≤ y)).Pairwise (· ≤ ·) := by
  have := List.pairwise_mergeSort (le := fun x y : List UInt8 => decide (x ≤ y)) (fun a b c h1 h2 => by simp only [decide_eq_true_eq] at *; exact List.le_trans h1 h2) (fun a b => by simp only [Bool.or_eq_true, decide_eq_true_eq]; exact List.le_total a b) l
  exact this.imp fun h => by simpa using h
theorem refsR_mem {x : Ex} {r : ByteArray} (h : r ∈ refsE x) : r ∈ refsR x := by
  unfold refsR cmpS'
  have h1 : r.data.toList ∈ lsB (refsE x) := List.mem_map_of_mem h
  have h2 : r.data.toList ∈ (lsB (refsE x)).mergeSort fun x y => decide (x ≤ y) := List.mem_mergeSort.2 h1
  have h3 : r.data.toList ∈ Lib.compact (lsB (srtS (refsE x))) := by
    apply compact_mem
    unfold srtS
    rw [lsB_blS]
    exact h2
  have := List.mem_map_of_mem (f := bB) h3
  rwa [bB_list] at this
theorem refsR_nodup (x : Ex) : (refsR x).Nodup := by
  unfold refsR cmpS' blS
  have h1 : (Lib.compact (lsB (srtS (refsE x)))).Nodup := by
    apply compact_nodup
    unfold srtS
    rw [lsB_blS]
    exact srt_sorted _
  rw [List.Nodup, List.pairwise_map]
  exact h1.imp fun h e => h (bB_inj e)
theorem refsR_len (x : Ex) : (refsR x).length ≤ (refsE x).length := by
  unfold refsR cmpS' blS
  rw [List.length_map]
  have := Lib.compact_length_le (lsB (srtS (refsE x)))
  simpa [lsB, srt_len] using this
theorem refs_few {x : Ex} (h : WF parC x) : (refsE x).length ≤ nodes x := by
  induction h with
  | n _ => rw [refs_n, nodes_n]; simp
  | r _ => rw [refs_r, nodes_r]; simp
  | t _ _ ih => rw [refs_1, nodes_1]; omega
  | f _ _ ih => rw [refs_1, nodes_1]; omega
  | o _ _ _ _ _ ih1 ih2 => rw [refs_2, nodes_2, List.length_append]; omega
theorem whole_one {s : ByteArray} {X Y : Ex} (h : Whole (par := parC) s X) (g : Whole (par := parC) s Y) : X = Y := by
  obtain ⟨j, h1, h2⟩ := h
  obtain ⟨j', g1, g2⟩ := g
  have := (Rd.one parC h1 g1).1
  injection this
theorem ErrT.none {s : ByteArray} {er : Int} {j : Nat} (h : ErrT s er j) (hs : s.size ≤ 1024) {X : Ex} (g : Whole (par := parC) s X) : False := by
  obtain ⟨j', g1, g2⟩ := g
  rcases h with ⟨h1, _⟩ | h1 | ⟨x, h1, h2, _⟩
  · omega
  · have := (Rd.one parC h1 g1).1
    cases this
  · obtain ⟨_, rfl⟩ := Rd.one parC h1 g1
    exact h2 g2
open Classical in
/-- The refs that a text of math has. -/
noncomputable def inpM (s : ByteArray) : List ByteArray := if h : s.size ≤ 1024 ∧ ∃ X, Whole (par := parC) s X then refsR h.2.choose else []
theorem inpM_ok {s : ByteArray} {X : Ex} (hs : s.size ≤ 1024) (h : Whole (par := parC) s X) : inpM s = refsR X := by
  have hh : s.size ≤ 1024 ∧ ∃ X, Whole (par := parC) s X := ⟨hs, X, h⟩
  unfold inpM
  rw [dif_pos hh, whole_one hh.2.choose_spec h]
theorem inpM_no {s : ByteArray} {er : Int} {j : Nat} (h : ErrT s er j) : inpM s = [] := by
  unfold inpM
  rw [dif_neg]
  rintro ⟨hs, X, hX⟩
  exact h.none hs hX
/-- The refs that a node hangs on. -/
noncomputable def inpN (x : Nd) : List ByteArray := if x.kind = 2 ∨ x.kind = 4 then [x.input] else if x.kind = 3 then inpM x.text else []
theorem inpN_in {x : Nd} (h : x.kind = 2 ∨ x.kind = 4) : inpN x = [x.input] := if_pos h
theorem inpN_math {x : Nd} (h : x.kind = 3) : inpN x = inpM x.text := by
  unfold inpN
  rw [if_neg (by omega), if_pos h]
theorem inpN_no {x : Nd} (h2 : ¬ x.kind = 2) (h4 : ¬ x.kind = 4) (h3 : ¬ x.kind = 3) : inpN x = [] := by
  unfold inpN
  rw [if_neg (by omega), if_neg h3]
theorem one_txs (w : World) (o : Obj) (s : ByteArray) : Txs ((w.alloc o).alloc (.cells #[.string s] 9)) (.slice (some ⟨w.heap.size + 1, 0, none⟩) 1 1) [s] := by
  have h := sls_one (E := encS) (w.alloc o) s #[.string s] 9 rfl
  have e : (w.alloc o).heap.size = w.heap.size + 1 := by simp
  rw [e] at h
  exact h
theorem inpM_len (s : ByteArray) : (inpM s).length ≤ 1024 := by
  by_cases h : s.size ≤ 1024 ∧ ∃ X, Whole (par := parC) s X
  · obtain ⟨hs, X, hX⟩ := h
    rw [inpM_ok hs hX]
    obtain ⟨_, _, _, _, _, _, _, hWF⟩ := hX.toks
    have := refsR_len X
    have := refs_few hWF
    have := hX.nodes.1
    omega
  · unfold inpM
    rw [dif_neg h]
    simp
theorem inpN_len (x : Nd) : (inpN x).length ≤ 1024 := by
  unfold inpN
  split
  · simp
  · split
    · exact inpM_len _
    · simp
theorem inpM_nodup (s : ByteArray) : (inpM s).Nodup := by
  by_cases h : s.size ≤ 1024 ∧ ∃ X, Whole (par := parC) s X
  · obtain ⟨hs, X, hX⟩ := h
    rw [inpM_ok hs hX]
    exact refsR_nodup X
  · unfold inpM
    rw [dif_neg h]
    exact List.nodup_nil
set_option maxRecDepth 100000 in
set_option maxHeartbeats 8000000 in
/-- Inputs. -/
theorem inputs12f (x : Nd) (w : World) (hG : G w) (hS : SignsAt w) (hs : x.text.size ≤ 9223372036854775807) : Calls Tryz.prog 12 #[ndV x] w fun e w' => ∃ a n c, e = .returned (.slice a n c) ∧ Hid (Txs w' (.slice a n c) (inpN x) ∧ Below w.heap.size w w' ∧ FreshA w.heap.size a) := by
  obtain ⟨ref, kind, source, input, how, strict, low, high, text⟩ := x
  have hb0 := bW0 w (.cells #[.string ref, .int .i64 kind, .string source, .string input, .string how, .bool strict, .int .i64 low.kind, .int .i64 low.n, .int .i64 high.kind, .int .i64 high.n, .string text] 36)
  by_cases h2 : kind = 2
  · subst h2
    have hI : Hid (inpN ⟨ref, 2, source, input, how, strict, low, high, text⟩ = [input]) := inpN_in (.inl rfl)
    generalize inpN ⟨ref, 2, source, input, how, strict, low, high, text⟩ = I at *
    go_enter Tryz.func12, Tryz.ntmps12
    go_wp2
    go_ret
    exact ⟨_, _, _, rfl, by rw [hI.out]; exact one_txs _ _ _, hb0.trans ((bW0 _ _).mono hb0.size), fun ad e => by cases e; exact Nat.le_succ _⟩
  by_cases h4 : kind = 4
  · subst h4
    have hI : Hid (inpN ⟨ref, 4, source, input, how, strict, low, high, text⟩ = [input]) := inpN_in (.inr rfl)
    generalize inpN ⟨ref, 4, source, input, how, strict, low, high, text⟩ = I at *
    clear h2
    go_enter Tryz.func12, Tryz.ntmps12
    go_wp2
    go_ret
    exact ⟨_, _, _, rfl, by rw [hI.out]; exact one_txs _ _ _, hb0.trans ((bW0 _ _).mono hb0.size), fun ad e => by cases e; exact Nat.le_succ _⟩
  by_cases h3 : kind = 3
  · subst h3
    have hI : Hid (inpN ⟨ref, 3, source, input, how, strict, low, high, text⟩ = inpM text) := inpN_math rfl
    generalize inpN ⟨ref, 3, source, input, how, strict, low, high, text⟩ = I at *
    clear h2 h4
    have hp := parse8 text _ (hG.grow hb0) (hS.grow hb0) hs
    have hrf : Hid (∀ (w1 : World) (k : Int) (n : ByteArray) (x y : Int) (a : Option Addr) (m c : Nat) (X : Ex) (P : Nat → Prop), text.size ≤ 1024 → Whole (par := parC) text X → ExV w1 P X (.agg #[.int .i64 k, .string n, .int .i64 x, .int .i64 y, .slice a m c]) → Below w.heap.size w w1 → Calls Tryz.prog 29 #[.agg #[.int .i64 k, .string n, .int .i64 x, .int .i64 y, .slice a m c]] (w1.alloc (.cells #[.int .i64 k, .string n, .int .i64 x, .int .i64 y, .slice a m c] 62)) fun e w' => ∃ a n c, e = .returned (.slice a n c) ∧ Hid (Txs w' (.slice a n c) I ∧ Below w.heap.size w w' ∧ FreshA w.heap.size a)) := fun w1 k n x y a m c X P ht hX hV hB => by
      obtain ⟨_, _, _, _, _, _, _, hWF⟩ := hX.toks
      have e1 := refs_few hWF
      have e2 := hX.nodes.1
      have hb1 := bW0 w1 (.cells #[.int .i64 k, .string n, .int .i64 x, .int .i64 y, .slice a m c] 62)
      refine (refs17f _ hWF (by omega) k n x y a m c (((hV.grow hb1).less).more fun b hb => hb.2)).mono ?_
      rintro e w' ⟨a', n', c', rfl, h⟩
      obtain ⟨g1, g2, g3⟩ := h.out
      have hB1 := hB.trans (hb1.mono hB.size)
      exact ⟨a', n', c', rfl, by rw [hI.out, inpM_ok ht hX]; exact g1, hB1.trans (g2.mono hB1.size), g3.mono hB1.size⟩
    have hno : Hid (∀ er j, ErrT text er j → I = []) := fun er j h => hI.out.trans (inpM_no h)
    clear hI hG hS hs
    go_enter Tryz.func12, Tryz.ntmps12
    go_wp2_with (first
      | (go_at_call 28; refine hp.mono ?_; clear hp; rintro e w1 ⟨k, n, x, y, a, m, c, er, at', rfl, h1⟩; obtain ⟨hb1, -, h1⟩ := h1.out; have hB1 := hb0.trans (hb1.mono hb0.size); clear hb1; rcases h1 with ⟨her, hE⟩ | ⟨rfl, ht, X, hX, hV⟩)
      | (go_at_call 29; refine (hrf.out _ _ _ _ _ _ _ _ X _ ht hX hV hB1).mono ?_; rintro e w2 ⟨a2, n2, c2, rfl, h2⟩))
    · go_ret
      exact ⟨_, _, _, rfl, by rw [hno.out _ _ hE]; exact sls_nil _, hB1.trans ((bW0 _ _).mono hB1.size), fun ad e => by cases e⟩
    · go_ret
      exact ⟨_, _, _, rfl, h2⟩
  · have hI : Hid (inpN ⟨ref, kind, source, input, how, strict, low, high, text⟩ = []) := inpN_no h2 h4 h3
    generalize inpN ⟨ref, kind, source, input, how, strict, low, high, text⟩ = I at *
    clear hG hS hs
    go_enter Tryz.func12, Tryz.ntmps12
    go_wp2
    go_ret
    exact ⟨_, _, _, rfl, by rw [hI.out]; exact sls_nil _, hb0, fun ad e => by cases e⟩
theorem inputs12 (x : Nd) (w : World) (hG : G w) (hS : SignsAt w) (hs : x.text.size ≤ 9223372036854775807) : Calls Tryz.prog 12 #[ndV x] w fun e w' => ∃ a n c, e = .returned (.slice a n c) ∧ Hid (Txs w' (.slice a n c) (inpN x) ∧ Below w.heap.size w w') :=
  (inputs12f x w hG hS hs).mono fun e w' ⟨a, n, c, h, g⟩ => ⟨a, n, c, h, g.out.1, g.out.2.1⟩
end Go.Proofs.YtaffplmfnincfaaGreatDoor
