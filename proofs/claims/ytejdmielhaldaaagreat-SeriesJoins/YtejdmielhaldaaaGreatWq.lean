/- The document's Check and Do; the document's do. -/
import Derived.Test.YtejdmielhaldaaaGreatWp
namespace Go.Proofs.YtejdmielhaldaaaGreat
set_option linter.unusedVariables false
open Go.RowKit
set_option maxRecDepth 100000 in
set_option maxHeartbeats 2000000 in
theorem rcheck_any (v : Value) (l : List Vl) (w : World) (hv : Vls w v l) (hl : l.length ≤ 1000000000) : Calls Tryz.prog 49 #[v] w fun e w' => e = .returned (.int .i64 (chkE l)) ∧ Below w.heap.size w w' := by
  have hgl : Hid (∀ W, Below w.heap.size w W → Vls W v l) := fun W h => hv.grow h
  obtain ⟨a, c, hva⟩ := hv.shape
  subst hva
  obtain ⟨n, hn⟩ : ∃ n, Hid (n = l.length) := ⟨_, rfl⟩
  rw [← hn.out] at hl hgl ⊢
  obtain ⟨R, hR⟩ : ∃ R, Hid (R = chkE l) := ⟨_, rfl⟩
  rw [← hR.out]
  clear hv
  go_enter Tryz.func49, Tryz.ntmps49
  go_wp2
  go_loopw [3] (fun i wr => ∃ k : Nat, k ≤ n ∧ i = .int .i64 k ∧ Hid (∀ u ∈ l.take k, IsV u) ∧ Below w.heap.size w wr) (fun i _ => n - (intOf i).toNat)
  case atStart => exact ⟨0, Nat.zero_le _, rfl, (fun u hu => by simp at hu), Below.refl _ _⟩
  case round =>
    obtain ⟨k, hk, rfl, hrk, hb⟩ := hrel
    have hz := hb.size
    by_cases hlt : k < n
    · have hki : (k : Int) < (n : Int) := by omega
      have hltl : k < l.length := by rw [← hn.out]; exact hlt
      obtain ⟨a', c', e, hcs⟩ := hgl.out wr hb
      have ea : a = a' ∧ n = l.length ∧ c = c' := by simpa using e
      obtain ⟨rfl, -, rfl⟩ := ea
      rcases hcs with hcs | ⟨b, o, rfl, hcs⟩
      · rw [hcs] at hltl; simp at hltl
      obtain ⟨x0, x1⟩ := hcs k hltl
      clear hcs e
      have hu := fun W => ris_any (l.getD k zer) W
      have htk : Hid (l.take (k + 1) = l.take k ++ [l.getD k zer]) := take_getD l k hltl
      have hmem : Hid (l.getD k zer ∈ l) := getD_mem l k hltl
      generalize l.getD k zer = u at *
      clear hgl
      cases hi : isB u
      · have hR2 : Hid (R = 80) := by
          have : ¬ ∀ v ∈ l, IsV v := fun h => by
            have := isB_of (h u hmem.out)
            rw [hi] at this; cases this
          have h2 := hR.out
          rw [chkE, if_neg this] at h2
          exact h2
        rw [hi] at hu
        unfold vlV at hu
        go_wp2_with (go_at_call 24; refine (hu _).mono ?_; rintro e w2 ⟨rfl, hb2⟩)
        go_ret
        exact ⟨by rw [hR2.out]; rfl, hb.trans (hb2.mono hb.size)⟩
      · rw [hi] at hu
        have hvu : IsV u := of_decide_eq_true hi
        have hnew : Hid (∀ y ∈ l.take (k + 1), IsV y) := by
          rw [htk.out]
          intro y hy
          rcases List.mem_append.1 hy with h | h
          · exact hrk.out y h
          · rw [List.mem_singleton.1 h]; exact hvu
        clear hvu
        unfold vlV at hu
        go_wp2_with (go_at_call 24; refine (hu _).mono ?_; rintro e w2 ⟨rfl, hb2⟩)
        go_roundw
        case rel => exact ⟨k + 1, by omega, by go_num, hnew, hb.trans (hb2.mono hb.size)⟩
        case measure => simp [intOf]; omega
    · obtain rfl : k = n := by omega
      have hki : ¬ (k : Int) < (k : Int) := by omega
      have hR2 : Hid (R = 0) := by
        have h3 := hrk.out
        rw [List.take_of_length_le (by rw [← hn.out]; omega)] at h3
        have h2 := hR.out
        rw [chkE, if_pos h3] at h2
        exact h2
      clear hgl
      go_wp2
      go_ret
      exact ⟨by rw [hR2.out]; rfl, hb⟩

theorem VlAt.other {w : World} {x y : Nat} {v : Vl} {a b : Value} (h : VlAt w x v) (hne : x ≠ y) : VlAt ((w.setCell ⟨y, 0, none⟩ a).setCell ⟨y, 1, none⟩ b) x v := by
  unfold VlAt at *
  have hk : ∀ (W : World) (i : Nat) (u : Value), (W.setCell ⟨y, i, none⟩ u).heap[x]? = W.heap[x]? := fun W i u => by
    unfold World.setCell
    rw [Array.getElem?_modify, if_neg (Ne.symm hne)]
  rw [hk, hk]
  exact h
set_option maxRecDepth 100000 in
set_option maxHeartbeats 4000000 in
/-- A wrong value. -/
theorem rdo_bad (op : ByteArray) (a : Option Addr) (n c : Nat) (w : World) (hc : ∀ W, Below w.heap.size w W → Calls Tryz.prog 49 #[.slice a n c] W fun e w' => e = .returned (.int .i64 80) ∧ Below W.heap.size W w') :
    Calls Tryz.prog 25 #[.string op, .slice a n c] w fun e w' => e = .returned (.tuple #[vlV zer, .int .i64 80]) ∧ Below w.heap.size w w' := by
  have hr : VlAt (w.alloc (.cells #[.int .i64 0, .int .i64 0] 25)) w.heap.size zer := vlNew w zer
  replace hc := hc _ (bW0 w (.cells #[.int .i64 0, .int .i64 0] 25))
  go_enter Tryz.func25, Tryz.ntmps25
  go_wp2_with (first | (go_at_call 49; refine hc.mono ?_; rintro e w2 ⟨rfl, hb2⟩; obtain ⟨r0, r1⟩ := (hr.grow hb2).cells; obtain ⟨rf0, rf1⟩ := (hr.grow hb2).frozen))
  exact ret_cell2 Tryz.results25 rfl (vlSet (v := zer) (hr.grow hb2) : VlAt _ _ zer) rfl ⟨rfl, belTwo _ _ ((bW0 w _).trans (hb2.mono (by simp))) (Nat.le_refl _)⟩
set_option maxRecDepth 100000 in
set_option maxHeartbeats 4000000 in
/-- No operation of so many. -/
theorem rdo_len (op : ByteArray) (a : Option Addr) (n c : Nat) (w : World) (h1 : n ≠ 1) (h2 : n ≠ 2) (hc : ∀ W, Below w.heap.size w W → Calls Tryz.prog 49 #[.slice a n c] W fun e w' => e = .returned (.int .i64 0) ∧ Below W.heap.size W w') :
    Calls Tryz.prog 25 #[.string op, .slice a n c] w fun e w' => e = .returned (.tuple #[vlV zer, .int .i64 2]) ∧ Below w.heap.size w w' := by
  have hr : VlAt (w.alloc (.cells #[.int .i64 0, .int .i64 0] 25)) w.heap.size zer := vlNew w zer
  replace hc := hc _ (bW0 w (.cells #[.int .i64 0, .int .i64 0] 25))
  have g1 : ((n : Int) == 1) = false := by simp; omega
  have g2 : ((n : Int) == 2) = false := by simp; omega
  clear h1 h2
  go_enter Tryz.func25, Tryz.ntmps25
  go_wp2_with (first | (go_at_call 49; refine hc.mono ?_; rintro e w2 ⟨rfl, hb2⟩; obtain ⟨r0, r1⟩ := ((hr.grow hb2).alloc (.cells #[.int .i64 0, .int .i64 0] 25)).cells; obtain ⟨rf0, rf1⟩ := ((hr.grow hb2).alloc (.cells #[.int .i64 0, .int .i64 0] 25)).frozen))
  have hb3 := (((bW0 w _).trans (hb2.mono (by simp))).alloc (Nat.le_trans (by simp) hb2.size) (.cells #[.int .i64 0, .int .i64 0] 25) : Below w.heap.size w (w2.alloc (.cells #[.int .i64 0, .int .i64 0] 25)))
  exact ret_cell2 Tryz.results25 rfl (vlSet (v := zer) ((hr.grow hb2).alloc _) : VlAt _ _ zer) rfl ⟨rfl, belTwo _ _ hb3 (Nat.le_refl _)⟩
theorem vls_at {w : World} {a : Option Addr} {n c : Nat} {l : List Vl} (h : Vls w (.slice a n c) l) (hn : 0 < l.length) : ∃ b o, a = some ⟨b, o, none⟩ ∧ ∀ t, t < l.length → VAt w b (o + t * 2) (l.getD t zer) := by
  obtain ⟨a', c', e, hcs⟩ := h
  injection e with e1 e2 e3
  subst e1
  rcases hcs with h0 | ⟨b, o, rfl, hcs⟩
  · rw [h0] at hn; simp at hn
  · exact ⟨b, o, rfl, hcs⟩
set_option maxRecDepth 100000 in
set_option maxHeartbeats 8000000 in
theorem rdo_one_t (op : ByteArray) (g o c : Nat) (a : Vl) (R : Vl) (w : World) (hat : VAt w g o a) (hR : ∀ W : World, Calls Tryz.prog 50 #[.string op, .agg #[.int .i64 a.kind, .int .i64 a.n]] W fun e w' => e = .returned (.tuple #[.agg #[.int .i64 R.kind, .int .i64 R.n], .bool true]) ∧ Below W.heap.size W w') (hc : ∀ W, Below w.heap.size w W → Calls Tryz.prog 49 #[.slice (some ⟨g, o, none⟩) 1 c] W fun e w' => e = .returned (.int .i64 0) ∧ Below W.heap.size W w') :
    Calls Tryz.prog 25 #[.string op, .slice (some ⟨g, o, none⟩) 1 c] w fun e w' => e = .returned (.tuple #[vlV R, .int .i64 0]) ∧ Below w.heap.size w w' := by
  have hr : VlAt (w.alloc (.cells #[.int .i64 0, .int .i64 0] 25)) w.heap.size zer := vlNew w zer
  replace hc := hc _ (bW0 w (.cells #[.int .i64 0, .int .i64 0] 25))
  have hcell : Hid (∀ W, Below w.heap.size w W → VAt W g o a) := fun W h => hat.keep (.of_below h)
  clear hat
  go_enter Tryz.func25, Tryz.ntmps25
  go_wp2_with (first | (go_at_call 49; refine hc.mono ?_; rintro e w2 ⟨rfl, hb2⟩; have hb3 := (((bW0 w _).trans (hb2.mono (by simp))).alloc (Nat.le_trans (by simp) hb2.size) (.cells #[.int .i64 0, .int .i64 0] 25) : Below w.heap.size w (w2.alloc (.cells #[.int .i64 0, .int .i64 0] 25))); have hb1 := ((bW0 w _).trans (hb2.mono (by simp)) : Below w.heap.size w w2); have hne : w.heap.size ≠ w2.heap.size := (by have := hb2.size; simp at this; omega); have hne' : w2.heap.size ≠ w.heap.size := Ne.symm hne; obtain ⟨x0, x1⟩ := hcell.out w2 hb1; obtain ⟨z0, z1⟩ := hcell.out _ hb3; obtain ⟨r0, r1⟩ := (hr.grow hb2).cells) | (go_at_call 50; refine (hR _).mono ?_; rintro e w4 ⟨rfl, hb4⟩; have hr4 := (hr.grow hb2).alloc (.cells #[.int .i64 0, .int .i64 0] 25) |>.grow hb4; obtain ⟨r0, r1⟩ := hr4.cells; obtain ⟨rf0, rf1⟩ := hr4.frozen; have ht4 := (vlNew w2 zer : VlAt (w2.alloc (.cells #[.int .i64 0, .int .i64 0] 25)) w2.heap.size zer).grow hb4; obtain ⟨t0, t1⟩ := ht4.cells; obtain ⟨tf0, tf1⟩ := ht4.frozen; have hb5 := hb3.trans (hb4.mono hb3.size)))
  all_goals exact ret_cell2 Tryz.results25 rfl (vlSet (k := R.kind) (n := R.n) (hr4.other hne) : VlAt _ _ R) rfl ⟨rfl, belTwo _ _ (belTwo _ _ hb5 hb1.size) (Nat.le_refl _)⟩
set_option maxRecDepth 100000 in
set_option maxHeartbeats 8000000 in
theorem rdo_one_f (op : ByteArray) (g o c : Nat) (a : Vl) (R : Vl) (w : World) (hat : VAt w g o a) (hR : ∀ W : World, Calls Tryz.prog 50 #[.string op, .agg #[.int .i64 a.kind, .int .i64 a.n]] W fun e w' => e = .returned (.tuple #[.agg #[.int .i64 R.kind, .int .i64 R.n], .bool false]) ∧ Below W.heap.size W w') (hc : ∀ W, Below w.heap.size w W → Calls Tryz.prog 49 #[.slice (some ⟨g, o, none⟩) 1 c] W fun e w' => e = .returned (.int .i64 0) ∧ Below W.heap.size W w') :
    Calls Tryz.prog 25 #[.string op, .slice (some ⟨g, o, none⟩) 1 c] w fun e w' => e = .returned (.tuple #[vlV zer, .int .i64 2]) ∧ Below w.heap.size w w' := by
  have hr : VlAt (w.alloc (.cells #[.int .i64 0, .int .i64 0] 25)) w.heap.size zer := vlNew w zer
  replace hc := hc _ (bW0 w (.cells #[.int .i64 0, .int .i64 0] 25))
  have hcell : Hid (∀ W, Below w.heap.size w W → VAt W g o a) := fun W h => hat.keep (.of_below h)
  clear hat
  go_enter Tryz.func25, Tryz.ntmps25
  go_wp2_with (first | (go_at_call 49; refine hc.mono ?_; rintro e w2 ⟨rfl, hb2⟩; have hb3 := (((bW0 w _).trans (hb2.mono (by simp))).alloc (Nat.le_trans (by simp) hb2.size) (.cells #[.int .i64 0, .int .i64 0] 25) : Below w.heap.size w (w2.alloc (.cells #[.int .i64 0, .int .i64 0] 25))); have hb1 := ((bW0 w _).trans (hb2.mono (by simp)) : Below w.heap.size w w2); have hne : w.heap.size ≠ w2.heap.size := (by have := hb2.size; simp at this; omega); have hne' : w2.heap.size ≠ w.heap.size := Ne.symm hne; obtain ⟨x0, x1⟩ := hcell.out w2 hb1; obtain ⟨z0, z1⟩ := hcell.out _ hb3; obtain ⟨r0, r1⟩ := (hr.grow hb2).cells) | (go_at_call 50; refine (hR _).mono ?_; rintro e w4 ⟨rfl, hb4⟩; have hr4 := (hr.grow hb2).alloc (.cells #[.int .i64 0, .int .i64 0] 25) |>.grow hb4; obtain ⟨r0, r1⟩ := hr4.cells; obtain ⟨rf0, rf1⟩ := hr4.frozen; have ht4 := (vlNew w2 zer : VlAt (w2.alloc (.cells #[.int .i64 0, .int .i64 0] 25)) w2.heap.size zer).grow hb4; obtain ⟨t0, t1⟩ := ht4.cells; obtain ⟨tf0, tf1⟩ := ht4.frozen; have hb5 := hb3.trans (hb4.mono hb3.size)))
  all_goals exact ret_cell2 Tryz.results25 rfl (vlSet (k := zer.kind) (n := zer.n) (hr4.other hne) : VlAt _ _ zer) rfl ⟨rfl, belTwo _ _ (belTwo _ _ hb5 hb1.size) (Nat.le_refl _)⟩
set_option maxRecDepth 100000 in
set_option maxHeartbeats 8000000 in
theorem rdo_two_t (op : ByteArray) (g o c : Nat) (a b : Vl) (R : Vl) (w : World) (hat : VAt w g o a) (hat2 : VAt w g (o + 2) b) (hR : ∀ W : World, Calls Tryz.prog 51 #[.string op, .agg #[.int .i64 a.kind, .int .i64 a.n], .agg #[.int .i64 b.kind, .int .i64 b.n]] W fun e w' => e = .returned (.tuple #[.agg #[.int .i64 R.kind, .int .i64 R.n], .bool true]) ∧ Below W.heap.size W w') (hc : ∀ W, Below w.heap.size w W → Calls Tryz.prog 49 #[.slice (some ⟨g, o, none⟩) 2 c] W fun e w' => e = .returned (.int .i64 0) ∧ Below W.heap.size W w') :
    Calls Tryz.prog 25 #[.string op, .slice (some ⟨g, o, none⟩) 2 c] w fun e w' => e = .returned (.tuple #[vlV R, .int .i64 0]) ∧ Below w.heap.size w w' := by
  have hr : VlAt (w.alloc (.cells #[.int .i64 0, .int .i64 0] 25)) w.heap.size zer := vlNew w zer
  replace hc := hc _ (bW0 w (.cells #[.int .i64 0, .int .i64 0] 25))
  have hcell : Hid (∀ W, Below w.heap.size w W → VAt W g o a ∧ VAt W g (o + 2) b) := fun W h => ⟨hat.keep (.of_below h), hat2.keep (.of_below h)⟩
  clear hat hat2
  go_enter Tryz.func25, Tryz.ntmps25
  go_wp2_with (first | (go_at_call 49; refine hc.mono ?_; rintro e w2 ⟨rfl, hb2⟩; have hb3 := (((bW0 w _).trans (hb2.mono (by simp))).alloc (Nat.le_trans (by simp) hb2.size) (.cells #[.int .i64 0, .int .i64 0] 25) : Below w.heap.size w (w2.alloc (.cells #[.int .i64 0, .int .i64 0] 25))); have hb1 := ((bW0 w _).trans (hb2.mono (by simp)) : Below w.heap.size w w2); have hne : w.heap.size ≠ w2.heap.size := (by have := hb2.size; simp at this; omega); have hne' : w2.heap.size ≠ w.heap.size := Ne.symm hne; obtain ⟨⟨x0, x1⟩, y0, y1⟩ := hcell.out w2 hb1; obtain ⟨⟨z0, z1⟩, v0, v1⟩ := hcell.out _ hb3; obtain ⟨r0, r1⟩ := (hr.grow hb2).cells))
  go_region_with (first | (go_at_call 51; refine (hR _).mono ?_; rintro e w4 ⟨rfl, hb4⟩; have hr4 := ((hr.grow hb2).alloc (.cells #[.int .i64 0, .int .i64 0] 25)).drew |>.grow hb4; obtain ⟨r0, r1⟩ := hr4.cells; obtain ⟨rf0, rf1⟩ := hr4.frozen; have ht4 := (vlNew w2 zer : VlAt (w2.alloc (.cells #[.int .i64 0, .int .i64 0] 25)) w2.heap.size zer).drew.grow hb4; obtain ⟨t0, t1⟩ := ht4.cells; obtain ⟨tf0, tf1⟩ := ht4.frozen; have hb5 := hb3.drew.trans (hb4.mono hb3.drew.size)))
  all_goals go_wp2
  all_goals exact ret_cell2 Tryz.results25 rfl (vlSet (k := R.kind) (n := R.n) (hr4.other hne) : VlAt _ _ R) rfl ⟨rfl, belTwo _ _ (belTwo _ _ hb5 hb1.size) (Nat.le_refl _)⟩
set_option maxRecDepth 100000 in
set_option maxHeartbeats 8000000 in
theorem rdo_two_f (op : ByteArray) (g o c : Nat) (a b : Vl) (R : Vl) (w : World) (hat : VAt w g o a) (hat2 : VAt w g (o + 2) b) (hR : ∀ W : World, Calls Tryz.prog 51 #[.string op, .agg #[.int .i64 a.kind, .int .i64 a.n], .agg #[.int .i64 b.kind, .int .i64 b.n]] W fun e w' => e = .returned (.tuple #[.agg #[.int .i64 R.kind, .int .i64 R.n], .bool false]) ∧ Below W.heap.size W w') (hc : ∀ W, Below w.heap.size w W → Calls Tryz.prog 49 #[.slice (some ⟨g, o, none⟩) 2 c] W fun e w' => e = .returned (.int .i64 0) ∧ Below W.heap.size W w') :
    Calls Tryz.prog 25 #[.string op, .slice (some ⟨g, o, none⟩) 2 c] w fun e w' => e = .returned (.tuple #[vlV zer, .int .i64 2]) ∧ Below w.heap.size w w' := by
  have hr : VlAt (w.alloc (.cells #[.int .i64 0, .int .i64 0] 25)) w.heap.size zer := vlNew w zer
  replace hc := hc _ (bW0 w (.cells #[.int .i64 0, .int .i64 0] 25))
  have hcell : Hid (∀ W, Below w.heap.size w W → VAt W g o a ∧ VAt W g (o + 2) b) := fun W h => ⟨hat.keep (.of_below h), hat2.keep (.of_below h)⟩
  clear hat hat2
  go_enter Tryz.func25, Tryz.ntmps25
  go_wp2_with (first | (go_at_call 49; refine hc.mono ?_; rintro e w2 ⟨rfl, hb2⟩; have hb3 := (((bW0 w _).trans (hb2.mono (by simp))).alloc (Nat.le_trans (by simp) hb2.size) (.cells #[.int .i64 0, .int .i64 0] 25) : Below w.heap.size w (w2.alloc (.cells #[.int .i64 0, .int .i64 0] 25))); have hb1 := ((bW0 w _).trans (hb2.mono (by simp)) : Below w.heap.size w w2); have hne : w.heap.size ≠ w2.heap.size := (by have := hb2.size; simp at this; omega); have hne' : w2.heap.size ≠ w.heap.size := Ne.symm hne; obtain ⟨⟨x0, x1⟩, y0, y1⟩ := hcell.out w2 hb1; obtain ⟨⟨z0, z1⟩, v0, v1⟩ := hcell.out _ hb3; obtain ⟨r0, r1⟩ := (hr.grow hb2).cells))
  go_region_with (first | (go_at_call 51; refine (hR _).mono ?_; rintro e w4 ⟨rfl, hb4⟩; have hr4 := ((hr.grow hb2).alloc (.cells #[.int .i64 0, .int .i64 0] 25)).drew |>.grow hb4; obtain ⟨r0, r1⟩ := hr4.cells; obtain ⟨rf0, rf1⟩ := hr4.frozen; have ht4 := (vlNew w2 zer : VlAt (w2.alloc (.cells #[.int .i64 0, .int .i64 0] 25)) w2.heap.size zer).drew.grow hb4; obtain ⟨t0, t1⟩ := ht4.cells; obtain ⟨tf0, tf1⟩ := ht4.frozen; have hb5 := hb3.drew.trans (hb4.mono hb3.drew.size)))
  all_goals go_wp2
  all_goals exact ret_cell2 Tryz.results25 rfl (vlSet (k := zer.kind) (n := zer.n) (hr4.other hne) : VlAt _ _ zer) rfl ⟨rfl, belTwo _ _ (belTwo _ _ hb5 hb1.size) (Nat.le_refl _)⟩
set_option maxRecDepth 100000 in
/-- The document's Do. -/
theorem rdo_any (op : ByteArray) (v : Value) (l : List Vl) (w : World) (hv : Vls w v l) (hl : l.length ≤ 1000000000) :
    Calls Tryz.prog 25 #[.string op, v] w fun e w' => e = .returned (.tuple #[vlV (doV op l), .int .i64 (doE op l)]) ∧ Below w.heap.size w w' := by
  obtain ⟨a', c', hva, hvs⟩ := id hv
  have hc : ∀ W, Below w.heap.size w W → Calls Tryz.prog 49 #[v] W fun e w' => e = .returned (.int .i64 (chkE l)) ∧ Below W.heap.size W w' := fun W h => rcheck_any v l W (hv.grow h) hl
  subst hva
  rcases chk_in l with hz | hz
  · rw [hz] at hc
    have hall : ∀ x ∈ l, IsV x := fun x hx => by
      unfold chkE at hz
      split at hz
      · rename_i h; exact h x hx
      · cases hz
    clear hl hvs
    rcases l with _ | ⟨x, _ | ⟨y, _ | ⟨z, r⟩⟩⟩
    · have h := rdo_len op a' 0 c' w (by decide) (by decide) hc
      have e1 : doV op [] = zer ∧ doE op [] = 2 := by simp [doV, doE, hz, ops]
      rw [e1.1, e1.2]; exact h
    · have hx := hall x (by simp)
      obtain ⟨g, o, rfl, hcs⟩ := vls_at hv (by simp)
      have hat : VAt w g o x := by have := hcs 0 (by simp); simpa using this
      have hR := fun W => rone_any op x hx W
      cases h1 : one op x with
      | none =>
        rw [h1] at hR
        have e1 : doV op [x] = zer ∧ doE op [x] = 2 := by simp [doV, doE, hz, ops, h1]
        rw [e1.1, e1.2]; exact rdo_one_f op g o c' x zer w hat hR hc
      | some R =>
        rw [h1] at hR
        rw [(do_one hx h1).1, (do_one hx h1).2]; exact rdo_one_t op g o c' x R w hat hR hc
    · have hx := hall x (by simp)
      have hy := hall y (by simp)
      obtain ⟨g, o, rfl, hcs⟩ := vls_at hv (by simp)
      have hat : VAt w g o x := by have := hcs 0 (by simp); simpa using this
      have hat2 : VAt w g (o + 2) y := by have := hcs 1 (by simp); simpa using this
      have hR := fun W => rtwo_any op x y hx hy W
      cases h1 : two op x y with
      | none =>
        rw [h1] at hR
        have e1 : doV op [x, y] = zer ∧ doE op [x, y] = 2 := by simp [doV, doE, hz, ops, h1]
        rw [e1.1, e1.2]; exact rdo_two_f op g o c' x y zer w hat hat2 hR hc
      | some R =>
        rw [h1] at hR
        rw [(do_two hx hy h1).1, (do_two hx hy h1).2]; exact rdo_two_t op g o c' x y R w hat hat2 hR hc
    · have h := rdo_len op a' (x :: y :: z :: r).length c' w (by simp) (by simp) hc
      have e1 : doV op (x :: y :: z :: r) = zer ∧ doE op (x :: y :: z :: r) = 2 := by simp [doV, doE, hz, ops]
      rw [e1.1, e1.2]; exact h
  · rw [hz] at hc
    have h := rdo_bad op a' l.length c' w hc
    have e1 : doV op l = zer ∧ doE op l = 80 := by simp [doV, doE, hz]
    rw [e1.1, e1.2]; exact h
end Go.Proofs.YtejdmielhaldaaaGreat
