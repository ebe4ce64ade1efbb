/- The contract of meta.Get. -/
import Derived.Test.YtcgjolonapndgabDoorZero
import Derived.Deep.CutBlock
import Derived.Deep.DeepCutAuto
namespace Go.Proofs.YtcgjolonapndgabDoor
open Go.RowKit Go.Maps Go.ChangeMaps Go.MapKept
/-- The parts of bytes, taken for a meta's. -/
def seqOf (bs : List Int) : Nat := ofBe ((bs.drop 0).take 8)
def rootOf (bs : List Int) : Nat := ofBe ((bs.drop 8).take 4)
def keysOf (bs : List Int) : Nat := ofBe ((bs.drop 12).take 8)
def keysI (bs : List Int) : Int := IntKind.i64.wrap (keysOf bs)
def depthOf (bs : List Int) : Nat := ofBe ((bs.drop 20).take 4)
/-- Are bytes a meta's? -/
def isMeta (bs : List Int) : Bool := decide (36 ≤ bs.length ∧ (seqOf bs ≠ 0 ∧ 0 ≤ (rootOf bs : Int) ∧ (rootOf bs : Int) ≤ 16384 ∧ 0 ≤ keysI bs ∧ keysI bs ≤ 2147483647 ∧ 0 ≤ (depthOf bs : Int) ∧ (depthOf bs : Int) ≤ 64) ∧ metaB (seqOf bs) (rootOf bs) (keysI bs) (depthOf bs) = bs.take 36 ∧ ∀ x ∈ bs.drop 36, x = 0)
/-- v[i:j] of a slice that is read. -/
theorem cut_any (b o n c i j : Nat) (hi : i ≤ j) (hj : j ≤ n) (hn : n ≤ c) (h0 : i < c) (W : World) : (Instr.slice 25 (.slice (some ⟨b, o, none⟩) n c) (some (.int .i64 (i : Int))) (some (.int .i64 (j : Int))) none).run Tryd.prog W = .ok (.slice (some ⟨b, o + i, none⟩) (j - i) (c - i)) W := by
  rw [run_slice_lh W 25 (some ⟨b, o, none⟩) n c elem33 .i64 .i64 i j (by omega) (by omega) (by omega), size5]
  simp only [Result.andThen, sliced, Int.toNat_natCast]
  rw [if_neg (by omega)]
  simp [add_at]
theorem rest_cut {w : World} {bs : List Int} {b o : Nat} (h : Rest w 0 bs.length b o fun t => .int .u8 (bs.getD t 0)) (i n : Nat) (hi : i + n ≤ bs.length) : Rest w 0 ((bs.drop i).take n).length b (o + i) fun t => .int .u8 (((bs.drop i).take n).getD t 0) := by
  intro t _ ht
  have hl : ((bs.drop i).take n).length = n := by simp; omega
  rw [hl] at ht
  have := h (i + t) (Nat.zero_le _) (by omega)
  rw [Nat.add_assoc, this]
  simp [ht]
theorem Rest.grow {w W : World} {n b o : Nat} {f : Nat → Value} (h : Rest w 0 n b o f) (hb : Below w.heap.size w W) : Rest W 0 n b o f := fun t h0 ht => by
  have := h t h0 ht
  exact (hb.cell (p := ⟨b, o + t, none⟩) (World.block_lt_of_cell? w _ this)).trans this
theorem numberOf_at (bs : List Int) (n b o c : Nat) (w : World) (hn : bs.length = n) (hby : IsBytes bs) (hlen : n ≤ 8) (hcell : Rest w 0 bs.length b o fun t => .int .u8 (bs.getD t 0)) :
    Calls Tryd.prog 30 #[.slice (some ⟨b, o, none⟩) n c] w fun e w' => e = .returned (.int .u64 (ofBe bs)) ∧ w' = w := by
  subst hn
  exact numberOf_some bs b o c w hby hlen hcell
theorem heap2 (w : World) (a b : Obj) : ((w.alloc a).alloc b).drew.heap[w.heap.size + 1]? = some b := by
  show ((w.heap.push a).push b)[w.heap.size + 1]? = _
  simp only [Array.getElem?_push, Array.size_push]; rw [if_pos trivial]
theorem heap2f (w : World) (a b : Obj) : ((w.alloc a).alloc b).drew.heap[w.heap.size]? = some a := by
  show ((w.heap.push a).push b)[w.heap.size]? = _
  simp [Array.getElem?_push]
theorem metaSet {w : World} {x q q2 : Nat} {r k d r2 k2 d2 : Int} (h : MetaAt w x q r k d) : MetaAt ((((w.setCell ⟨x, 0, none⟩ (.int .u64 q2)).setCell ⟨x, 1, none⟩ (.int .i64 r2)).setCell ⟨x, 2, none⟩ (.int .i64 k2)).setCell ⟨x, 3, none⟩ (.int .i64 d2)) x q2 r2 k2 d2 := by
  have h1 := block_setCell (i := 0) (u := .int .u64 q2) h
  have h2 := block_setCell (i := 1) (u := .int .i64 r2) h1
  have h3 := block_setCell (i := 2) (u := .int .i64 k2) h2
  have h4 := block_setCell (i := 3) (u := .int .i64 d2) h3
  unfold MetaAt
  rw [h4]
  simp
theorem setFour {w : World} {x k : Nat} (a b c d : Value) (h : k ≠ x) : ((((w.setCell ⟨x, 0, none⟩ a).setCell ⟨x, 1, none⟩ b).setCell ⟨x, 2, none⟩ c).setCell ⟨x, 3, none⟩ d).heap[k]? = w.heap[k]? := by
  rw [Below.heap_setCell _ _ _ _ h, Below.heap_setCell _ _ _ _ h, Below.heap_setCell _ _ _ _ h, Below.heap_setCell _ _ _ _ h]
theorem belFour {w W : World} {x n : Nat} (a b c d : Value) (h : Below n w W) (hx : n ≤ x) : Below n w ((((W.setCell ⟨x, 0, none⟩ a).setCell ⟨x, 1, none⟩ b).setCell ⟨x, 2, none⟩ c).setCell ⟨x, 3, none⟩ d) :=
  (((h.setCell (p := ⟨x, 0, none⟩) hx a).setCell (p := ⟨x, 1, none⟩) hx b).setCell (p := ⟨x, 2, none⟩) hx c).setCell (p := ⟨x, 3, none⟩) hx d
theorem mtake {bs : List Int} (i n : Nat) (h : i + n ≤ 36) : ((bs.take 36).drop i).take n = (bs.drop i).take n := by
  rw [List.drop_take, List.take_take, Nat.min_eq_left (by omega)]
set_option maxRecDepth 100000 in
set_option maxHeartbeats 1000000 in
theorem mget_short (v : Value) (bs : List Int) (w : World) (hb : Bts w v bs) (h : bs.length < 36) :
    Calls Tryd.prog 10 #[v] w fun e w' => e = .returned (.tuple #[.agg #[.int .u64 0, .int .i64 0, .int .i64 0, .int .i64 0], .int .i64 40]) ∧ Below w.heap.size w w' := by
  have hlen := len_bts hb
  have h' : (bs.length : Int) < 36 := by omega
  go_enter Tryd.func10, Tryd.ntmps10
  go_wp2_with fail
  exact bodyPost_ret (v := .tuple #[.agg #[.int .u64 0, .int .i64 0, .int .i64 0, .int .i64 0], .int .i64 40]) (by simp [results, Tryd.results10, go_sem]) rfl ⟨rfl, (Below.refl _ _).alloc (Nat.le_refl _) _⟩
set_option maxRecDepth 100000 in
set_option maxHeartbeats 4000000 in
theorem mget_main (v : Value) (bs : List Int) (w : World) (hb : Bts w v bs) (hby : IsBytes bs) (h1 : 36 ≤ bs.length) :
    Calls Tryd.prog 10 #[v] w fun e w' => (isMeta bs = false → e = .returned (.tuple #[.agg #[.int .u64 0, .int .i64 0, .int .i64 0, .int .i64 0], .int .i64 40])) ∧ (isMeta bs = true → e = .returned (.tuple #[.agg #[.int .u64 (seqOf bs), .int .i64 (rootOf bs), .int .i64 (keysI bs), .int .i64 (depthOf bs)], .int .i64 0])) ∧ Below w.heap.size w w' := by
  have hlen := len_bts hb
  obtain ⟨vo, hso, hbo, _⟩ := slice_from hb 36 (by omega)
  replace hso : ∀ W, (Instr.slice 25 v (some (.int .i64 36)) none none).run Tryd.prog W = .ok vo W := hso
  obtain ⟨vi, hsi, hbi⟩ := slice_toI hb 36 (by omega)
  replace hsi : ∀ W, (Instr.slice 25 v none (some (.int .i64 36)) none).run Tryd.prog W = .ok vi W := hsi
  have hbi' := hbi
  have hil : (bs.take 36).length = 36 := by simp; omega
  obtain ⟨a, c, rfl, ⟨_, hc⟩, hr⟩ := hbi
  rcases hr with h0 | ⟨b, o, rfl, hr⟩
  · rw [h0] at hil; simp at hil
  have h36 : decide ((bs.length : Int) < 36) = false := by simp; omega
  have hnum : ∀ (i n : Nat) (W : World), i + n ≤ 36 → n ≤ 8 → Below w.heap.size w W → Calls Tryd.prog 30 #[.slice (some ⟨b, o + i, none⟩) n (c - i)] W fun e w' => e = .returned (.int .u64 (ofBe ((bs.drop i).take n))) ∧ w' = W := fun i n W h hn hW => by
    have hl : ((bs.drop i).take n).length = n := by simp; omega
    have hrr := (rest_cut hr i n (by rw [hil]; exact h)).grow hW
    rw [mtake i n h] at hrr
    exact numberOf_at _ n b (o + i) (c - i) W hl ((hby.drop i).take n) hn hrr
  have hn0 : ∀ W, Below w.heap.size w W → Calls Tryd.prog 30 #[.slice (some ⟨b, o, none⟩) 8 c] W fun e w' => e = .returned (.int .u64 (ofBe ((bs.drop 0).take 8))) ∧ w' = W := fun W => hnum 0 8 W (by omega) (by omega)
  have hn1 := fun W => hnum 8 4 W (by omega) (by omega)
  have hn2 := fun W => hnum 12 8 W (by omega) (by omega)
  have hn3 := fun W => hnum 20 4 W (by omega) (by omega)
  rw [hil] at hsi hbi' hc
  have hs0 : ∀ W, (Instr.slice 25 (.slice (some ⟨b, o, none⟩) 36 c) (some (.int .i64 0)) (some (.int .i64 8)) none).run Tryd.prog W = .ok (.slice (some ⟨b, o, none⟩) 8 c) W := fun W => cut_any b o 36 c 0 8 (by omega) (by omega) hc (by omega) W
  have hs1 : ∀ W, (Instr.slice 25 (.slice (some ⟨b, o, none⟩) 36 c) (some (.int .i64 8)) (some (.int .i64 12)) none).run Tryd.prog W = .ok (.slice (some ⟨b, o + 8, none⟩) 4 (c - 8)) W := fun W => cut_any b o 36 c 8 12 (by omega) (by omega) hc (by omega) W
  have hs2 : ∀ W, (Instr.slice 25 (.slice (some ⟨b, o, none⟩) 36 c) (some (.int .i64 12)) (some (.int .i64 20)) none).run Tryd.prog W = .ok (.slice (some ⟨b, o + 12, none⟩) 8 (c - 12)) W := fun W => cut_any b o 36 c 12 20 (by omega) (by omega) hc (by omega) W
  have hs3 : ∀ W, (Instr.slice 25 (.slice (some ⟨b, o, none⟩) 36 c) (some (.int .i64 20)) (some (.int .i64 24)) none).run Tryd.prog W = .ok (.slice (some ⟨b, o + 20, none⟩) 4 (c - 20)) W := fun W => cut_any b o 36 c 20 24 (by omega) (by omega) hc (by omega) W
  have hl0 := ofBe_lt ((bs.drop 0).take 8) ((hby.drop 0).take 8)
  have hl1 := ofBe_lt ((bs.drop 8).take 4) ((hby.drop 8).take 4)
  have hl2 := ofBe_lt ((bs.drop 12).take 8) ((hby.drop 12).take 8)
  have hl3 := ofBe_lt ((bs.drop 20).take 4) ((hby.drop 20).take 4)
  rw [show ((bs.drop 0).take 8).length = 8 by simp; omega] at hl0
  rw [show ((bs.drop 8).take 4).length = 4 by simp; omega] at hl1
  rw [show ((bs.drop 12).take 8).length = 8 by simp; omega] at hl2
  rw [show ((bs.drop 20).take 4).length = 4 by simp; omega] at hl3
  have hPM : Hid (isMeta bs = decide ((seqOf bs ≠ 0 ∧ 0 ≤ (rootOf bs : Int) ∧ (rootOf bs : Int) ≤ 16384 ∧ 0 ≤ keysI bs ∧ keysI bs ≤ 2147483647 ∧ 0 ≤ (depthOf bs : Int) ∧ (depthOf bs : Int) ≤ 64) ∧ metaB (seqOf bs) (rootOf bs) (keysI bs) (depthOf bs) = bs.take 36 ∧ ∀ x ∈ bs.drop 36, x = 0)) := by
    show _ = _
    unfold isMeta
    simp only [h1, true_and]
  have hkw : IntKind.i64.wrap ((keysOf bs : Nat) : Int) = keysI bs := rfl
  replace hl0 : seqOf bs < 2 ^ 64 := hl0
  replace hl1 : rootOf bs < 2 ^ 32 := hl1
  replace hl2 : keysOf bs < 2 ^ 64 := hl2
  replace hl3 : depthOf bs < 2 ^ 32 := hl3
  replace hn0 : ∀ W, Below w.heap.size w W → Calls Tryd.prog 30 #[.slice (some ⟨b, o, none⟩) 8 c] W fun e w' => e = .returned (.int .u64 (seqOf bs)) ∧ w' = W := hn0
  replace hn1 : ∀ W, Below w.heap.size w W → Calls Tryd.prog 30 #[.slice (some ⟨b, o + 8, none⟩) 4 (c - 8)] W fun e w' => e = .returned (.int .u64 (rootOf bs)) ∧ w' = W := hn1
  replace hn2 : ∀ W, Below w.heap.size w W → Calls Tryd.prog 30 #[.slice (some ⟨b, o + 12, none⟩) 8 (c - 12)] W fun e w' => e = .returned (.int .u64 (keysOf bs)) ∧ w' = W := hn2
  replace hn3 : ∀ W, Below w.heap.size w W → Calls Tryd.prog 30 #[.slice (some ⟨b, o + 20, none⟩) 4 (c - 20)] W fun e w' => e = .returned (.int .u64 (depthOf bs)) ∧ w' = W := hn3
  have hN : ∃ s0 s1 s2 s3 : Value, (∀ W, (Instr.slice 25 (.slice (some ⟨b, o, none⟩) 36 c) (some (.int .i64 0)) (some (.int .i64 8)) none).run Tryd.prog W = .ok s0 W) ∧ (∀ W, (Instr.slice 25 (.slice (some ⟨b, o, none⟩) 36 c) (some (.int .i64 8)) (some (.int .i64 12)) none).run Tryd.prog W = .ok s1 W) ∧ (∀ W, (Instr.slice 25 (.slice (some ⟨b, o, none⟩) 36 c) (some (.int .i64 12)) (some (.int .i64 20)) none).run Tryd.prog W = .ok s2 W) ∧ (∀ W, (Instr.slice 25 (.slice (some ⟨b, o, none⟩) 36 c) (some (.int .i64 20)) (some (.int .i64 24)) none).run Tryd.prog W = .ok s3 W) ∧
      ∀ v W, (v = s0 ∨ v = s1 ∨ v = s2 ∨ v = s3) → Below w.heap.size w W → Calls Tryd.prog 30 #[v] W fun e w' => ∃ x : Nat, e = .returned (.int .u64 x) ∧ w' = W ∧ (v = s0 → x = seqOf bs) ∧ (v = s1 → x = rootOf bs) ∧ (v = s2 → x = keysOf bs) ∧ (v = s3 → x = depthOf bs) := by
    refine ⟨_, _, _, _, hs0, hs1, hs2, hs3, fun v W hv hW => ?_⟩
    rcases hv with rfl | rfl | rfl | rfl
    · exact (hn0 W hW).mono fun e w' h => ⟨_, h.1, h.2, fun _ => rfl, fun h => by simp at h, fun h => by simp at h, fun h => by simp at h⟩
    · exact (hn1 W hW).mono fun e w' h => ⟨_, h.1, h.2, fun h => by simp at h, fun _ => rfl, fun h => by simp at h, fun h => by simp at h⟩
    · exact (hn2 W hW).mono fun e w' h => ⟨_, h.1, h.2, fun h => by simp at h, fun h => by simp at h, fun _ => rfl, fun h => by simp at h⟩
    · exact (hn3 W hW).mono fun e w' h => ⟨_, h.1, h.2, fun h => by simp at h, fun h => by simp at h, fun h => by simp at h, fun _ => rfl⟩
  clear hn0 hn1 hn2 hn3 hs0 hs1 hs2 hs3
  obtain ⟨s0, s1, s2, s3, hs0, hs1, hs2, hs3, hN⟩ := hN
  generalize seqOf bs = Q at *
  generalize rootOf bs = R at *
  generalize keysI bs = K at *
  generalize keysOf bs = KN at *
  generalize depthOf bs = D at *
  have hwR : IntKind.i64.wrap (R : Int) = R := by rw [IntKind.wrap_i64]; omega
  have hwD : IntKind.i64.wrap (D : Int) = D := by rw [IntKind.wrap_i64]; omega
  have hBA : ∀ o, Below w.heap.size w (w.alloc o) := fun o => (Below.refl _ _).alloc (Nat.le_refl _) _
  clear hnum hr hl2
  go_enter Tryd.func10, Tryd.ntmps10
  go_wp2_with fail
  go_region_held3 (fun _ => True) (trivial) (fail)
  go_wp2_with fail
  have hB1 := (hBA (.cells #[.int .u64 0, .int .i64 0, .int .i64 0, .int .i64 0] 24)).drew
  have hr1 : MetaAt (w.alloc (.cells #[.int .u64 0, .int .i64 0, .int .i64 0, .int .i64 0] 24)).drew w.heap.size 0 0 0 0 := heap_alloc_new w _
  generalize (w.alloc (.cells #[.int .u64 0, .int .i64 0, .int .i64 0, .int .i64 0] 24)).drew = W1 at hB1 hr1 ⊢
  have hB2 := hB1.drew.alloc hB1.size (.cells #[.int .u64 0, .int .i64 0, .int .i64 0, .int .i64 0] 24)
  have hx2 : MetaAt (W1.drew.alloc (.cells #[.int .u64 0, .int .i64 0, .int .i64 0, .int .i64 0] 24)) W1.heap.size 0 0 0 0 := heap_alloc_new W1.drew _
  have hr2 : MetaAt (W1.drew.alloc (.cells #[.int .u64 0, .int .i64 0, .int .i64 0, .int .i64 0] 24)) w.heap.size 0 0 0 0 := hr1.keep ((heap_alloc W1.drew _).2 _ hr1.lt)
  have hlt2 := hr1.lt
  have hx3 : ∀ (q : Nat) (r k d : Int), MetaAt (W1.alloc (.cells #[.int .u64 q, .int .i64 r, .int .i64 k, .int .i64 d] 24)).drew W1.heap.size q r k d := fun q r k d => heap_alloc_new W1 _
  have hr3 : ∀ o, MetaAt (W1.alloc o).drew w.heap.size 0 0 0 0 := fun o => hr1.keep ((heap_alloc W1 o).2 _ hr1.lt)
  have hB3 : ∀ o, Below w.heap.size w (W1.alloc o).drew := fun o => (hB1.alloc hB1.size o).drew
  go_cut [6] (fun x6 wc => ∃ xb : Nat, x6 = .pointer (some ⟨xb, 0, none⟩) ∧ MetaAt wc xb Q R K D ∧ MetaAt wc w.heap.size 0 0 0 0 ∧ w.heap.size < xb ∧ Below w.heap.size w wc)
  case first =>
    go_region_held3 (fun W => Below w.heap.size w W) (first | exact hB1.drew | exact hB2 | exact (hB1.alloc hB1.size _).drew | exact hB1.drew.alloc hB1.size _ | assumption) (first | (go_at_call 30; refine (hN _ _ (by first | exact .inl rfl | exact .inr (.inl rfl) | exact .inr (.inr (.inl rfl)) | exact .inr (.inr (.inr rfl))) (by first | exact hB1.drew | exact hB2 | assumption)).mono ?_; rintro e w' ⟨x, rfl, hw', hx0, hx1, hx2, hx3⟩; subst w'; (first | (have hx := hx0 rfl; subst hx) | (have hx := hx1 rfl; subst hx) | (have hx := hx2 rfl; subst hx) | (have hx := hx3 rfl; subst hx)); clear hx0 hx1 hx2 hx3))
    all_goals
      go_wp2_with fail
      go_meet
      case rel =>
        exact ⟨W1.heap.size, rfl, hx3 _ _ _ _, hr3 _, hlt2, hB3 _⟩
  case rest =>
    obtain ⟨xb, rfl, hpx, hres, hxb, hBc⟩ := hcut
    obtain ⟨c60, c61, c62, c63⟩ := hpx.cells
    clear hB1 hB2 hB3 hx2 hx3 hr2 hr3 hr1 hN hs0 hs1 hs2 hs3 hlt2 hwR hwD hkw
    by_cases hbd : (Q ≠ 0 ∧ 0 ≤ (R : Int) ∧ (R : Int) ≤ 16384 ∧ 0 ≤ K ∧ K ≤ 2147483647 ∧ 0 ≤ (D : Int) ∧ (D : Int) ≤ 64)
    · have hBd : Hid (true = decide (Q ≠ 0 ∧ 0 ≤ (R : Int) ∧ (R : Int) ≤ 16384 ∧ 0 ≤ K ∧ K ≤ 2147483647 ∧ 0 ≤ (D : Int) ∧ (D : Int) ≤ 64)) := (decide_eq_true hbd).symm
      by_cases hE : metaB Q R K D = bs.take 36
      · have hdE : decide (metaB Q R K D = bs.take 36) = true := decide_eq_true hE
        by_cases hZ : ∀ x ∈ bs.drop 36, x = 0
        · have hZd : Hid (true = decide (∀ x ∈ bs.drop 36, x = 0)) := (decide_eq_true hZ).symm
          have hP : isMeta bs = true := by rw [hPM.out]; exact decide_eq_true ⟨hbd, hE, hZ⟩
          clear hbd hE hZ
          go_wp2_with (first | (go_at_call 31; refine (bounded_any Q R K D _ true (hBd)).mono ?_; rintro e w3 ⟨rfl, hb3⟩; have hr3 : MetaAt w3 w.heap.size 0 0 0 0 := hres.keep (hb3.block _ hres.lt); have hx3 : MetaAt w3 xb Q R K D := hpx.keep (hb3.block _ hpx.lt); obtain ⟨a30, a31, a32, a33⟩ := hr3.cells; obtain ⟨f30, f31, f32, f33⟩ := hr3.frozen; obtain ⟨c30, c31, c32, c33⟩ := hx3.cells) | (go_at_call 12; refine (mput_any Q R K D _ hl0).mono ?_; rintro e w4 ⟨rfl, hrow4, hb4⟩; have hr4 : MetaAt w4 w.heap.size 0 0 0 0 := hr3.keep (hb4.block _ hr3.lt); have hx4 : MetaAt w4 xb Q R K D := hx3.keep (hb4.block _ hx3.lt); obtain ⟨a40, a41, a42, a43⟩ := hr4.cells; obtain ⟨f40, f41, f42, f43⟩ := hr4.frozen; obtain ⟨c40, c41, c42, c43⟩ := hx4.cells; have hbt := hrow4.bts; rw [metaB_len] at hbt; clear a30 a31 a32 a33 f30 f31 f32 f33 c30 c31 c32 c33) | (go_at_call 32; refine (equal_any _ _ _ _ _ hbt ((hbi'.grow hBc).grow (hb3.trans (hb4.mono hb3.size))) (metaB_bytes _ _ _ _) (hby.take 36)).mono ?_; rintro e w5 ⟨rfl, hw5⟩; subst w5) | (go_at_call 33; refine (onlyZeros_any _ _ _ ((hbo.grow hBc).grow (hb3.trans (hb4.mono hb3.size))) true (hZd)).mono ?_; rintro e w5 ⟨rfl, hw5⟩; subst w5))
          exact bodyPost_ret (v := .tuple #[.agg #[.int .u64 Q, .int .i64 R, .int .i64 K, .int .i64 D], .int .i64 0]) (by simp [results, Tryd.results10, go_sem, a40, a41, a42, a43]) rfl ⟨(fun h => by rw [hP] at h; cases h), fun _ => rfl, belFour _ _ _ _ ((hBc.trans (hb3.mono hBc.size)).trans (hb4.mono (Nat.le_trans hBc.size hb3.size))) (Nat.le_refl _)⟩
        · have hZd : Hid (false = decide (∀ x ∈ bs.drop 36, x = 0)) := (decide_eq_false hZ).symm
          have hP : isMeta bs = false := by rw [hPM.out]; exact decide_eq_false fun h => hZ h.2.2
          clear hbd hE hZ
          go_wp2_with (first | (go_at_call 31; refine (bounded_any Q R K D _ true (hBd)).mono ?_; rintro e w3 ⟨rfl, hb3⟩; have hr3 : MetaAt w3 w.heap.size 0 0 0 0 := hres.keep (hb3.block _ hres.lt); have hx3 : MetaAt w3 xb Q R K D := hpx.keep (hb3.block _ hpx.lt); obtain ⟨a30, a31, a32, a33⟩ := hr3.cells; obtain ⟨f30, f31, f32, f33⟩ := hr3.frozen; obtain ⟨c30, c31, c32, c33⟩ := hx3.cells) | (go_at_call 12; refine (mput_any Q R K D _ hl0).mono ?_; rintro e w4 ⟨rfl, hrow4, hb4⟩; have hr4 : MetaAt w4 w.heap.size 0 0 0 0 := hr3.keep (hb4.block _ hr3.lt); have hx4 : MetaAt w4 xb Q R K D := hx3.keep (hb4.block _ hx3.lt); obtain ⟨a40, a41, a42, a43⟩ := hr4.cells; obtain ⟨f40, f41, f42, f43⟩ := hr4.frozen; obtain ⟨c40, c41, c42, c43⟩ := hx4.cells; have hbt := hrow4.bts; rw [metaB_len] at hbt; clear a30 a31 a32 a33 f30 f31 f32 f33 c30 c31 c32 c33) | (go_at_call 32; refine (equal_any _ _ _ _ _ hbt ((hbi'.grow hBc).grow (hb3.trans (hb4.mono hb3.size))) (metaB_bytes _ _ _ _) (hby.take 36)).mono ?_; rintro e w5 ⟨rfl, hw5⟩; subst w5) | (go_at_call 33; refine (onlyZeros_any _ _ _ ((hbo.grow hBc).grow (hb3.trans (hb4.mono hb3.size))) false (hZd)).mono ?_; rintro e w5 ⟨rfl, hw5⟩; subst w5))
          exact bodyPost_ret (v := .tuple #[.agg #[.int .u64 0, .int .i64 0, .int .i64 0, .int .i64 0], .int .i64 40]) (by simp [results, Tryd.results10, go_sem, a40, a41, a42, a43]) rfl ⟨fun _ => rfl, (fun h => by rw [hP] at h; cases h), belFour _ _ _ _ ((hBc.trans (hb3.mono hBc.size)).trans (hb4.mono (Nat.le_trans hBc.size hb3.size))) (Nat.le_refl _)⟩
      · have hdE : decide (metaB Q R K D = bs.take 36) = false := decide_eq_false hE
        have hP : isMeta bs = false := by rw [hPM.out]; exact decide_eq_false fun h => hE h.2.1
        clear hbd hE
        go_wp2_with (first | (go_at_call 31; refine (bounded_any Q R K D _ true (hBd)).mono ?_; rintro e w3 ⟨rfl, hb3⟩; have hr3 : MetaAt w3 w.heap.size 0 0 0 0 := hres.keep (hb3.block _ hres.lt); have hx3 : MetaAt w3 xb Q R K D := hpx.keep (hb3.block _ hpx.lt); obtain ⟨a30, a31, a32, a33⟩ := hr3.cells; obtain ⟨f30, f31, f32, f33⟩ := hr3.frozen; obtain ⟨c30, c31, c32, c33⟩ := hx3.cells) | (go_at_call 12; refine (mput_any Q R K D _ hl0).mono ?_; rintro e w4 ⟨rfl, hrow4, hb4⟩; have hr4 : MetaAt w4 w.heap.size 0 0 0 0 := hr3.keep (hb4.block _ hr3.lt); have hx4 : MetaAt w4 xb Q R K D := hx3.keep (hb4.block _ hx3.lt); obtain ⟨a40, a41, a42, a43⟩ := hr4.cells; obtain ⟨f40, f41, f42, f43⟩ := hr4.frozen; obtain ⟨c40, c41, c42, c43⟩ := hx4.cells; have hbt := hrow4.bts; rw [metaB_len] at hbt; clear a30 a31 a32 a33 f30 f31 f32 f33 c30 c31 c32 c33) | (go_at_call 32; refine (equal_any _ _ _ _ _ hbt ((hbi'.grow hBc).grow (hb3.trans (hb4.mono hb3.size))) (metaB_bytes _ _ _ _) (hby.take 36)).mono ?_; rintro e w5 ⟨rfl, hw5⟩; subst w5))
        exact bodyPost_ret (v := .tuple #[.agg #[.int .u64 0, .int .i64 0, .int .i64 0, .int .i64 0], .int .i64 40]) (by simp [results, Tryd.results10, go_sem, a40, a41, a42, a43]) rfl ⟨fun _ => rfl, (fun h => by rw [hP] at h; cases h), belFour _ _ _ _ ((hBc.trans (hb3.mono hBc.size)).trans (hb4.mono (Nat.le_trans hBc.size hb3.size))) (Nat.le_refl _)⟩
    · have hBd : Hid (false = decide (Q ≠ 0 ∧ 0 ≤ (R : Int) ∧ (R : Int) ≤ 16384 ∧ 0 ≤ K ∧ K ≤ 2147483647 ∧ 0 ≤ (D : Int) ∧ (D : Int) ≤ 64)) := (decide_eq_false hbd).symm
      have hP : isMeta bs = false := by rw [hPM.out]; exact decide_eq_false fun h => hbd h.1
      clear hbd
      go_wp2_with (first | (go_at_call 31; refine (bounded_any Q R K D _ false (hBd)).mono ?_; rintro e w3 ⟨rfl, hb3⟩; have hr3 : MetaAt w3 w.heap.size 0 0 0 0 := hres.keep (hb3.block _ hres.lt); have hx3 : MetaAt w3 xb Q R K D := hpx.keep (hb3.block _ hpx.lt); obtain ⟨a30, a31, a32, a33⟩ := hr3.cells; obtain ⟨f30, f31, f32, f33⟩ := hr3.frozen; obtain ⟨c30, c31, c32, c33⟩ := hx3.cells))
      exact bodyPost_ret (v := .tuple #[.agg #[.int .u64 0, .int .i64 0, .int .i64 0, .int .i64 0], .int .i64 40]) (by simp [results, Tryd.results10, go_sem, a30, a31, a32, a33]) rfl ⟨fun _ => rfl, (fun h => by rw [hP] at h; cases h), belFour _ _ _ _ (hBc.trans (hb3.mono hBc.size)) (Nat.le_refl _)⟩
/-- meta.Get of bytes that are no meta's. -/
theorem mget_no (v : Value) (bs : List Int) (w : World) (hb : Bts w v bs) (hby : IsBytes bs) (h : isMeta bs = false) :
    Calls Tryd.prog 10 #[v] w fun e w' => e = .returned (.tuple #[.agg #[.int .u64 0, .int .i64 0, .int .i64 0, .int .i64 0], .int .i64 40]) ∧ Below w.heap.size w w' := by
  by_cases h1 : bs.length < 36
  · exact mget_short v bs w hb h1
  · exact (mget_main v bs w hb hby (by omega)).mono fun e w' hh => ⟨hh.1 h, hh.2.2⟩
/-- meta.Get of a meta's bytes. -/
theorem mget_yes (v : Value) (bs : List Int) (w : World) (hb : Bts w v bs) (hby : IsBytes bs) (h : isMeta bs = true) :
    Calls Tryd.prog 10 #[v] w fun e w' => e = .returned (.tuple #[.agg #[.int .u64 (seqOf bs), .int .i64 (rootOf bs), .int .i64 (keysI bs), .int .i64 (depthOf bs)], .int .i64 0]) ∧ Below w.heap.size w w' := by
  have h1 : 36 ≤ bs.length := by
    simp only [isMeta, decide_eq_true_eq] at h
    exact h.1
  exact (mget_main v bs w hb hby h1).mono fun e w' hh => ⟨hh.2.1 h, hh.2.2⟩
end Go.Proofs.YtcgjolonapndgabDoor
