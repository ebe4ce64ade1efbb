/- live(): it answers true; nothing that was there has turned. -/
import Derived.Test.YtcjmfibehofepaaCrash
import Derived.Test.YtcjmfibehofepaaUnsafe
import Derived.Lib.SlBytesConst
namespace Go.Proofs.Ytcjmfibehofepaa
open Go.RowKit Go.Maps Go.ChangeMaps Go.MapKept

set_option maxRecDepth 100000 in
set_option maxHeartbeats 1000000 in
theorem ints_some (xs : List Int) (b o c b2 o2 c2 : Nat) (w : World) (hl : xs.length ≤ 1000000000)
    (h1 : ∀ t, t < xs.length → w.cell? ⟨b, o + t, none⟩ = some (.int .i64 (xs.getD t 0))) (h2 : ∀ t, t < xs.length → w.cell? ⟨b2, o2 + t, none⟩ = some (.int .i64 (xs.getD t 0))) :
    Calls Try.prog 25 #[.slice (some ⟨b, o, none⟩) xs.length c, .slice (some ⟨b2, o2, none⟩) xs.length c2] w fun e w' => e = .returned (.bool true) ∧ ∃ m, w' = w.drewN m := by
  obtain ⟨n, hn⟩ : ∃ n, Hid (n = xs.length) := ⟨_, rfl⟩
  rw [← hn.out]
  rw [← hn.out] at hl h1 h2
  go_enter Try.func25, Try.ntmps25
  go_wp2
  go_loopw [5] (fun i wr => ∃ k : Nat, k ≤ n ∧ i = .int .i64 k ∧ ∃ m, wr = w.drewN m) (fun i _ => n - (intOf i).toNat)
  case atStart => exact ⟨0, Nat.zero_le _, rfl, 0, rfl⟩
  case round =>
    obtain ⟨k, hk, rfl, m, rfl⟩ := hrel
    by_cases hlt : k < n
    · have hc1 := h1 k hlt
      have hc2 := h2 k hlt
      generalize xs.getD k 0 = x at hc1 hc2
      have hki : (k : Int) < (n : Int) := by omega
      go_wp2
      go_quiet (fail)
      go_wp2
      go_roundw
      case rel => exact ⟨k + 1, by omega, by go_num, _, rfl⟩
      case measure => simp [intOf]; omega
    · obtain rfl : k = n := by omega
      go_wp2
      go_ret
      exact ⟨rfl, _, rfl⟩
set_option maxRecDepth 100000 in
theorem ints_none (a a2 : Option Addr) (c c2 : Nat) (w : World) : Calls Try.prog 25 #[.slice a 0 c, .slice a2 0 c2] w fun e w' => e = .returned (.bool true) ∧ w' = w := by
  go_enter Try.func25, Try.ntmps25
  go_wp2
  go_loop [5] (fun i => i = .int .i64 0) (fun _ => 0)
  case atStart => rfl
  case round =>
    subst hrel
    go_wp2
    go_ret
    exact ⟨rfl, rfl⟩
theorem ints_eq (xs : List Int) (v1 v2 : Value) (w : World) (hl : xs.length ≤ 1000000000) (h1 : Ints w v1 xs) (h2 : Ints w v2 xs) :
    Calls Try.prog 25 #[v1, v2] w fun e w' => e = .returned (.bool true) ∧ ∃ m, w' = w.drewN m := by
  obtain ⟨a, c, rfl, h1⟩ := h1
  obtain ⟨a2, c2, rfl, h2⟩ := h2
  by_cases h0 : xs = []
  · subst h0
    exact (ints_none a a2 c c2 w).mono fun e w' ⟨h1, h2⟩ => ⟨h1, 0, h2⟩
  · rcases h1 with h1 | ⟨b, o, rfl, h1⟩
    · exact absurd h1 h0
    · rcases h2 with h2 | ⟨b2, o2, rfl, h2⟩
      · exact absurd h2 h0
      · exact ints_some xs b o c b2 o2 c2 w hl h1 h2
theorem Ints.grow {w w' : World} {v : Value} {xs : List Int} (h : Ints w v xs) (hb : Below w.heap.size w w') : Ints w' v xs := by
  obtain ⟨a, c, rfl, h⟩ := h
  refine ⟨a, c, rfl, ?_⟩
  rcases h with h | ⟨b, o, rfl, h⟩
  · exact .inl h
  · exact .inr ⟨b, o, rfl, fun t ht => (hb.cell (p := ⟨b, o + t, none⟩) (World.block_lt_of_cell? w _ (h t ht))).trans (h t ht)⟩
/-- .. while only blocks of F, or new ones, turn, and it lies in none of F. -/
theorem Ints.frm {F : Nat → Prop} {w w' : World} {v : Value} {xs : List Int} (h : Ints w v xs) (hf : Frm F w w') (hv : ∀ k, v.ownBlock = some k → ¬ F k) : Ints w' v xs := by
  obtain ⟨a, c, rfl, h⟩ := h
  refine ⟨a, c, rfl, ?_⟩
  rcases h with h | ⟨b, o, rfl, h⟩
  · exact .inl h
  · exact .inr ⟨b, o, rfl, fun t ht => (World.cell?_of_block (w := w) (hf.block b (World.block_lt_of_cell? w _ (h t ht)) (hv b rfl))).trans (h t ht)⟩
theorem Ints.lt {w : World} {v : Value} {xs : List Int} (h : Ints w v xs) (h0 : xs ≠ []) : ∀ k, v.ownBlock = some k → k < w.heap.size := by
  obtain ⟨a, c, rfl, h1⟩ := h
  rcases h1 with h1 | ⟨b, o, rfl, hr⟩
  · exact absurd h1 h0
  · intro k hk
    cases hk
    exact World.block_lt_of_cell? w _ (hr 0 (List.length_pos_iff.2 h0))
theorem Bts.frm {F : Nat → Prop} {w w' : World} {v : Value} {xs : List Int} (h : Bts w v xs) (hf : Frm F w w') (hv : ∀ k, v.ownBlock = some k → ¬ F k) : Bts w' v xs := by
  obtain ⟨a, c, rfl, hn, h⟩ := h
  refine ⟨a, c, rfl, hn, ?_⟩
  rcases h with h | ⟨b, o, rfl, h⟩
  · exact .inl h
  · exact .inr ⟨b, o, rfl, fun t h0 ht => (World.cell?_of_block (w := w) (hf.block b (World.block_lt_of_cell? w _ (h t h0 ht)) (hv b rfl))).trans (h t h0 ht)⟩
theorem IsD.tight {w : World} {p : Nat} {F : Nat → Prop} {s : St} (h : IsD w p F s) : IsD w p (fun k => F k ∧ k < w.heap.size) s := by
  obtain ⟨bs, bf, ns, nf, gs, gf, h, hr⟩ := h
  exact ⟨bs, bf, ns, nf, gs, gf, h.tight, hr⟩

theorem ints_nil (w : World) : Ints w (.slice none 0 0) [] := ⟨none, 0, rfl, .inl rfl⟩
theorem ints1 (w : World) (x : Int) : Ints (w.alloc (.cells #[.int .i64 x] 3)) (.slice (some ⟨w.heap.size, 0, none⟩) 1 1) [x] := by
  refine ⟨_, 1, rfl, .inr ⟨w.heap.size, 0, rfl, fun t ht => ?_⟩⟩
  have : t = 0 := by simp at ht; omega
  subst this
  simp
theorem torns1 (w : World) (x y : Int) : Torns (w.alloc (.cells #[.int .i64 x, .int .i64 y] 58)) (.slice (some ⟨w.heap.size, 0, none⟩) 1 1) [(x, y)] := by
  refine ⟨_, 1, rfl, .inr ⟨w.heap.size, 0, rfl, fun t ht => ?_⟩⟩
  have : t = 0 := by simp at ht; omega
  subst this
  constructor <;> simp

/-! ### live() -/
def l0 : St := St.new 8 64
def l1 : St := l0.write 3 [[97], [98]]
def l2 : St := l1.crash [] [(3, 1)]
def l3 : St := l2.arm 0
def l4 : St := l3.sync
theorem le1 : l0.errWrite 3 [[97], [98]] = 0 := by decide +kernel
theorem lu1 : l1.unsafes = [3] := by decide +kernel
theorem ln2 : l2.now 3 = 97 :: zeros 63 := by decide +kernel
theorem lf1 : l0.ops = 0 ∧ l1.ops = 1 ∧ l2.ops = 1 ∧ l3.ops = 1 ∧ l4.ops = 1 := by decide +kernel
theorem lf2 : l2.dead = false ∧ l2.size = 64 ∧ l2.sectors = 8 ∧ l4.dead = true := by decide +kernel
theorem le3 : l3.errOp = 20 := by decide +kernel
theorem const1 (w : World) (C : Array Value) (n c : Nat) : (convert 33 33 (.slice (some ⟨w.heap.size, 0, none⟩) n c)).run Try.prog (w.alloc (.cells C 5)) = .ok (.slice (some ⟨w.heap.size, 0, none⟩) n c) (w.alloc (.cells C 5 (C.size, C.size + 1))) :=
  Lib.run_convert_bytes_const (P := Try.prog) w 33 5 C n c Try.underlying33 Try.underlying5
theorem const2 (w : World) (o : Obj) (C : Array Value) (n c : Nat) : (convert 33 33 (.slice (some ⟨w.heap.size + 1, 0, none⟩) n c)).run Try.prog ((w.alloc o).alloc (.cells C 5)) = .ok (.slice (some ⟨w.heap.size + 1, 0, none⟩) n c) ((w.alloc o).alloc (.cells C 5 (C.size, C.size + 1))) := by
  have := const1 (w.alloc o) C n c
  rwa [World.size_alloc] at this
theorem bts_block {W : World} {g : Nat} {fr : Nat × Nat} (xs : List Int) (h : W.heap[g]? = some (.cells (xs.map (Value.int .u8)).toArray 5 fr)) : Bts W (.slice (some ⟨g, 0, none⟩) xs.length xs.length) xs := by
  refine ⟨_, xs.length, rfl, ⟨(fun e => by cases e), Nat.le_refl _⟩, .inr ⟨g, 0, rfl, fun t _ ht => ?_⟩⟩
  simp [World.cell?, h, ht]
theorem lists2 {W : World} {a b c : Nat} {fa fb : Nat × Nat} (x y : List Int) (ha : W.heap[a]? = some (.cells (x.map (Value.int .u8)).toArray 5 fa)) (hb : W.heap[b]? = some (.cells (y.map (Value.int .u8)).toArray 5 fb))
    (hc : W.heap[c]? = some (.cells #[.slice (some ⟨a, 0, none⟩) x.length x.length, .slice (some ⟨b, 0, none⟩) y.length y.length] 33 (0, 0))) : Lists W (.slice (some ⟨c, 0, none⟩) 2 2) [x, y] := by
  refine ⟨_, 2, rfl, .inr ⟨c, 0, rfl, fun t ht => ?_⟩⟩
  match t, ht with
  | 0, _ => exact ⟨_, by simp [World.cell?, hc], bts_block x ha⟩
  | 1, _ => exact ⟨_, by simp [World.cell?, hc], bts_block y hb⟩

set_option maxRecDepth 100000 in
set_option maxHeartbeats 4000000 in
theorem live_any (w : World) : Calls Try.prog 9 #[] w fun e w' => e = .returned (.bool true) ∧ Below w.heap.size w w' := by
  go_enter Try.func9, Try.ntmps9
  go_wp2_with fail
  refine (new_ok 8 64 (by decide) (by decide) (by decide) (by decide) w).mono ?_
  rintro e w1 ⟨p, rfl, hd1, hb1⟩
  replace hd1 := hd1.tight
  have hc1 := fun C n c => const1 w1 C n c
  have hc2 := fun o C n c => const2 w1 o C n c
  go_wp2_with (first | (go_at_call 12; refine (num_any _ _ (by omega) (by omega)).mono ?_; rintro e w2 ⟨rfl, hw2⟩; subst w2))
  obtain ⟨q0, q1, q2⟩ := heap3 w1 (.cells #[.int .u8 97] 5 (1, 2)) (.cells #[.int .u8 98] 5 (1, 2)) (.cells #[.slice (some ⟨w1.heap.size, 0, none⟩) 1 1, .slice (some ⟨w1.heap.size + 1, 0, none⟩) 1 1] 33)
  have hsw : (((w1.alloc (.cells #[.int .u8 97] 5 (1, 2))).alloc (.cells #[.int .u8 98] 5 (1, 2))).alloc (.cells #[.slice (some ⟨w1.heap.size, 0, none⟩) 1 1, .slice (some ⟨w1.heap.size + 1, 0, none⟩) 1 1] 33)).heap.size = w1.heap.size + 3 := by simp
  have hb2 : Below w1.heap.size w1 (((w1.alloc (.cells #[.int .u8 97] 5 (1, 2))).alloc (.cells #[.int .u8 98] 5 (1, 2))).alloc (.cells #[.slice (some ⟨w1.heap.size, 0, none⟩) 1 1, .slice (some ⟨w1.heap.size + 1, 0, none⟩) 1 1] 33)) :=
    (((Below.refl _ w1).alloc (Nat.le_refl _) _).alloc (by simp) _).alloc (by simp; omega) _
  have hs1 := hb1.size
  clear hc1 hc2
  generalize (((w1.alloc (.cells #[.int .u8 97] 5 (1, 2))).alloc (.cells #[.int .u8 98] 5 (1, 2))).alloc (.cells #[.slice (some ⟨w1.heap.size, 0, none⟩) 1 1, .slice (some ⟨w1.heap.size + 1, 0, none⟩) 1 1] 33)) = W1 at *
  have hd2 := hd1.grow hb2
  refine (write_any (s := l0) hd2 (by decide) 3 _ [[97], [98]] (fun W hf => lists2 [97] [98] ((hf.block _ (by omega) (fun h => by omega)).trans q0) ((hf.block _ (by omega) (fun h => by omega)).trans q1) ((hf.block _ (by omega) (fun h => by omega)).trans q2)) (by decide) (by decide) (by decide)).mono ?_
  rintro e w2 ⟨rfl, F2, hd3, hf3, hF3⟩
  rw [le1]
  have hB2 : Below w.heap.size w w2 := (hb1.trans (hb2.mono hs1)).trans (hf3.below (by omega) (fun k hk => hk.1))
  have hG2 : ∀ k, F2 k → w.heap.size ≤ k := fun k hk => by
    rcases (hF3 k hk).1 with h | h
    · exact h.1
    · omega
  have hL2 : ∀ k, F2 k → k < w2.heap.size := fun k hk => (hF3 k hk).2
  change IsD w2 p F2 l1 at hd3
  clear q0 q1 q2 hd1 hd2 hf3 hF3 hb1 hb2 hsw hs1
  go_wp2_with (first | (go_at_call 12; refine (num_any _ _ (by omega) (by omega)).mono ?_; rintro e w3 ⟨rfl, hw3⟩; subst w3))
  refine (unsafe_any hd3 (by decide)).mono ?_
  rintro e w3 ⟨v3, rfl, hi3, hb3, hv3⟩
  rw [lu1] at hi3
  have hd4 := hd3.grow hb3
  have hs3 := hb3.size
  have hs2 := hB2.size
  have hB3 : Below w.heap.size w w3 := hB2.trans (hb3.mono (by omega))
  clear hd3 hb3
  go_wp2_with fail
  refine (crash_any (s := l1) (hd4.alloc _) (by decide) [] [(3, 1)] _ _ (ints_nil _) (torns1 w3 3 1) (by decide) (by decide) (by simp) (by intro t ht; simp at ht; subst ht; unfold In64; omega)).mono ?_
  rintro e w4 ⟨rfl, F4, hd5, hf5, hF5⟩
  change IsD w4 p F4 l2 at hd5
  rw [World.size_alloc] at hF5
  have hi4 := (hi3.grow ((Below.refl _ w3).alloc (Nat.le_refl _) _)).frm hf5 (fun k hk h => by have := hv3 k hk; have := hL2 k h; omega)
  have hL4 : ∀ k, F4 k → k < w4.heap.size := fun k hk => (hF5 k hk).2
  have hG4 : ∀ k, F4 k → w.heap.size ≤ k ∧ ∀ j, v3.ownBlock = some j → k ≠ j := fun k hk => by
    have hj3 := hi3.lt (by simp)
    rcases (hF5 k hk).1 with h | h
    · exact ⟨hG2 k h, fun j hj e => by have := hv3 j hj; have := hL2 k h; omega⟩
    · exact ⟨by omega, fun j hj e => by have := hj3 j hj; omega⟩
  have hs4 : w3.heap.size + 1 ≤ w4.heap.size := by have := hf5.size; simpa using this
  have hB4 : Below w.heap.size w w4 := (hB3.alloc (by omega) _).trans (hf5.below (by simp; omega) hG2)
  clear hd4 hf5 hF5 hB3 hi3 hB2
  go_wp2_with fail
  refine (read_ok hd5 3 (by decide) rfl).mono ?_
  rintro e w5 ⟨g5, rfl, hg5, hrow5, hb5⟩
  rw [ln2] at hrow5
  rw [lf2.2.1]
  unfold slV
  have hs5 := hb5.size
  have hd6 := hd5.grow hb5
  have hi5 := hi4.grow hb5
  have hB5 : Below w.heap.size w w5 := hB4.trans (hb5.mono (by omega))
  have hglt := hrow5.lt
  clear hd5 hb5 hi4 hB4
  go_wp2_with fail
  refine (arm_any hd6 0 (by decide) (by decide)).mono ?_
  rintro e w6 ⟨rfl, hd7, hf7, hs6⟩
  change IsD w6 p F4 l3 at hd7
  have hrow6 := hrow5.keep (hf7.block g5 hglt (fun h => by have := hL4 g5 h; omega))
  have hi6 := hi5.frm hf7 (fun k hk h => (hG4 k h).2 k hk rfl)
  have hB6 : Below w.heap.size w w6 := hB5.trans (hf7.below (by omega) (fun k hk => (hG4 k hk).1))
  clear hd6 hf7 hi5 hB5 hrow5
  go_wp2_with fail
  refine (sync_any (s := l3) hd7 (by decide)).mono ?_
  rintro e w7 ⟨rfl, F7, hd8, hf8, hF8⟩
  rw [le3]
  change IsD w7 p F7 l4 at hd8
  have hrow7 := hrow6.keep (hf8.block g5 (by omega) (fun h => by have := hL4 g5 h; omega))
  have hi7 := hi6.frm hf8 (fun k hk h => (hG4 k h).2 k hk rfl)
  have hB7 : Below w.heap.size w w7 := hB6.trans (hf8.below (by omega) (fun k hk => (hG4 k hk).1))
  have hs7 := hf8.size
  clear hd7 hf8 hF8 hi6 hB6 hrow6
  go_wp2_with fail
  refine (ints_eq [3] v3 _ _ (by decide) (hi7.grow ((Below.refl _ w7).alloc (Nat.le_refl _) _)) (ints1 w7 3)).mono ?_
  rintro e w8 ⟨rfl, m8, hw8⟩
  have hb8 : Below w7.heap.size w7 w8 := by rw [hw8]; exact below_drewN ((Below.refl _ w7).alloc (Nat.le_refl _) _) m8
  have hrow8 := hrow7.keep (hb8.block g5 hrow7.lt)
  have hd9 := hd8.grow hb8
  have hB8 : Below w.heap.size w w8 := hB7.trans (hb8.mono (by have := hB7.size; omega))
  have hc0 := hrow8.cell 0 (by simp)
  have hc1 := hrow8.cell 1 (by simp [zeros])
  have z0 : (97 :: zeros 63 : List Int).getD 0 0 = 97 := rfl
  have z1 : (97 :: zeros 63 : List Int).getD 1 0 = 0 := rfl
  rw [z0] at hc0
  rw [z1] at hc1
  have hde := dead_any hd9
  have hop := ops_any hd9
  rw [lf2.2.2.2] at hde
  rw [lf1.2.2.2.2] at hop
  clear hw8 hrow8 hrow7 hd8 hd9 hi7 hb8 hB7 z0 z1
  go_wp2_with (first | (go_at_call 12; refine (num_any _ _ (by omega) (by omega)).mono ?_; rintro e w9 ⟨rfl, hw9⟩; subst w9) | (go_at_call 23; refine hde.mono ?_; rintro e w9 ⟨rfl, hw9⟩; subst w9) | (go_at_call 24; refine hop.mono ?_; rintro e w9 ⟨rfl, hw9⟩; subst w9))
  go_ret
  exact ⟨rfl, hB8⟩
end Go.Proofs.Ytcjmfibehofepaa
