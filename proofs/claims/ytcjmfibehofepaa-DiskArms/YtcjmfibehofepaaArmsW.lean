/- The walk of DiskArms. -/
import Derived.Test.YtcjmfibehofepaaHeld
namespace Go.Proofs.Ytcjmfibehofepaa
open Go.RowKit Go.Maps Go.ChangeMaps Go.MapKept

/-- An armed disk behind k operations. -/
def Armed (n k : Nat) (s : St) : Prop := s.dead = false ∧ s.left = (n : Int) - k ∧ s.ops = k ∧ s.sectors = 4 ∧ s.size = 64
theorem armed_live {n k : Nat} {s : St} (h : Armed n k s) (hk : k < n) : s.live = true := by
  obtain ⟨h1, h2, _⟩ := h
  simp only [St.live, h1, h2]; simp; omega
theorem armed_off {n : Nat} {s : St} (h : Armed n n s) : s.live = false := by
  obtain ⟨h1, h2, _⟩ := h
  simp [St.live, h1, h2]
theorem armed_op {n k : Nat} {s : St} (h : Armed n k s) (hk : k < n) : Armed n (k + 1) s.op := by
  have hl := armed_live h hk
  obtain ⟨h1, h2, h3, h4, h5⟩ := h
  unfold St.op
  rw [if_pos hl]
  refine ⟨h1, ?_, by simp [h3], h4, h5⟩
  show (if s.left = -1 then -1 else s.left - 1) = _
  rw [if_neg (by omega)]; omega
theorem armed_sync {n k : Nat} {s : St} (h : Armed n k s) (hk : k < n) : s.errOp = 0 ∧ Armed n (k + 1) s.sync := by
  have hl := armed_live h hk
  refine ⟨by simp [St.errOp, hl], ?_⟩
  unfold St.sync
  rw [if_pos hl]
  exact armed_op h hk
theorem armed_write {n k : Nat} {s : St} (h : Armed n k s) (hk : k < n) (m : Int) (h0 : 0 ≤ m) (h4 : m < 4) (ls : List (List Int)) (hl : tot ls ≤ 64) : s.errWrite m ls = 0 ∧ Armed n (k + 1) (s.write m ls) := by
  have hl' := armed_live h hk
  have hc : 0 ≤ m ∧ m < (s.sectors : Int) := by rw [h.2.2.2.1]; exact ⟨h0, by omega⟩
  have hs : tot ls ≤ s.size := by rw [h.2.2.2.2]; exact hl
  unfold St.errWrite St.write
  rw [if_pos hc, if_pos hc, if_pos hs, if_pos hs, if_pos hl']
  exact ⟨by simp [St.errOp, hl'], armed_op h hk⟩
/-- A disk whose power is off, or goes off now. -/
def Off (n : Nat) (s : St) : Prop := s.live = false ∧ s.ops = n ∧ s.sectors = 4 ∧ s.size = 64
theorem off_op {n : Nat} {s : St} (h : Off n s) : Off n s.op ∧ s.op.dead = true ∧ s.errOp = 20 := by
  obtain ⟨h1, h2, h3, h4⟩ := h
  unfold St.op St.errOp
  rw [h1]
  simp only [Bool.false_eq_true, if_false]
  exact ⟨⟨by simp [St.live], h2, h3, h4⟩, trivial, trivial⟩
theorem off_sync {n : Nat} {s : St} (h : Off n s) : Off n s.sync ∧ s.sync.dead = true := by
  unfold St.sync
  rw [if_neg (by simp [h.1])]
  exact ⟨(off_op h).1, (off_op h).2.1⟩
theorem off_write {n : Nat} {s : St} (h : Off n s) : s.errWrite 0 [] = 20 ∧ s.write 0 [] = s.op := by
  unfold St.errWrite St.write
  have hc : (0 : Int) ≤ 0 ∧ (0 : Int) < (s.sectors : Int) := by rw [h.2.2.1]; exact ⟨Int.le_refl _, by omega⟩
  have ht : tot [] ≤ s.size := Nat.zero_le _
  rw [if_pos hc, if_pos hc, if_pos ht, if_pos ht, if_neg (by simp [h.1])]
  exact ⟨(off_op h).2.2, rfl⟩

set_option maxRecDepth 100000 in
set_option maxHeartbeats 4000000 in
theorem arms_main (n m : Nat) (hn : n ≤ 60) (hm1 : 1 ≤ m) (hm : m ≤ 60) (w : World) :
    Calls Try.prog 7 #[.int .i64 n, .int .i64 m] w fun e w' => e = .returned (.bool true) ∧ Below w.heap.size w w' := by
  have d1 : decide ((n : Int) < 0) = false := by simp
  have d2 : decide ((60 : Int) < (n : Int)) = false := by simp; omega
  have d3 : decide ((m : Int) < 1) = false := by simp; omega
  have d4 : decide ((60 : Int) < (m : Int)) = false := by simp; omega
  have hnew := held_new (w := w) (W := w) 4 64 (by decide) (by decide) (by decide) (by decide) (Below.refl _ _)
  go_enter Try.func7, Try.ntmps7
  go_wp2_with (first | (go_at_call 10; refine hnew.mono ?_; rintro e w1 ⟨p, rfl, hh1, hb1⟩) | (go_at_call 12; refine (num_any _ _ (by omega) (by omega)).mono ?_; rintro e w2 ⟨rfl, hw2⟩; subst w2) | (go_at_call 19; refine (held_arm hh1 _ (by omega) (by omega)).mono ?_; rintro e w2 ⟨rfl, hh2, hf2⟩))
  have ha0 : Armed n 0 ((St.new 4 64).arm n) := by
    refine ⟨rfl, ?_, rfl, rfl, rfl⟩
    show max (n : Int) (-1) = _
    omega
  go_loopw [7] (fun i wr => ∃ (k : Nat) (F : Nat → Prop) (s : St), k ≤ n ∧ i = .int .i64 k ∧ Armed n k s ∧ Held w wr p F s) (fun i _ => n - (intOf i).toNat)
  case atStart => exact ⟨0, _, _, Nat.zero_le _, rfl, ha0, hh2⟩
  case round =>
    obtain ⟨k, F, s, hk, rfl, ha, hh⟩ := hrel
    clear ha0 hh2 hh1 hf2 hb1 hnew
    by_cases hlt : k < n
    · have hops : s.ops < 17592186044416 := by rw [ha.2.2.1]; omega
      by_cases h3 : k % 3 = 2
      · have t3 : ((k : Int) % 3 == 2) = true := by simp; omega
        obtain ⟨e1, ha1⟩ := armed_sync ha hlt
        have hsy := held_sync hh hops
        rw [e1] at hsy
        go_wp2_with (first | (go_at_call 17; refine hsy.mono ?_; rintro e w3 ⟨rfl, F3, hh3, hf3, hF3⟩) | (go_at_call 12; refine (num_any _ _ (by omega) (by omega)).mono ?_; rintro e w2 ⟨rfl, hw2⟩; subst w2))
        refine ⟨⟨k + 1, F3, _, by omega, by go_num, ha1, hh3⟩, ?_⟩
        simp [intOf]; omega
      · have t3 : ((k : Int) % 3 == 2) = false := by simp; omega
        have hwr : Hid (Calls Try.prog 13 #[.pointer (some ⟨p, 0, none⟩), .int .i64 ((k : Int) % 4), .slice (some ⟨wr.heap.size + 1, 0, none⟩) 1 1] ((wr.alloc (.cells #[.int .u8 k] 5)).alloc (.cells #[.slice (some ⟨wr.heap.size, 0, none⟩) 1 1] 33)) fun e w' => e = .returned (.int .i64 0) ∧ ∃ F' s', Held w w' p F' s' ∧ Armed n (k + 1) s') := by
          have hrow : (wr.alloc (.cells #[.int .u8 (k : Int)] 5)).heap[wr.heap.size]? = some (.cells ([(k : Int)].map (Value.int .u8)).toArray 5 (0, 0)) := (heap_alloc wr _).1
          have hlb := listsB1 (P := fun b => ¬ F b) (w := wr.alloc (.cells #[.int .u8 (k : Int)] 5)) (bts_block [(k : Int)] hrow) (fun h => by have := (hh.blocks _ h).2; simp at this; omega) (fun _ j hj h => by cases hj; exact absurd (hh.blocks _ h).2 (Nat.lt_irrefl _))
          rw [World.size_alloc] at hlb
          obtain ⟨e1, ha1⟩ := armed_write ha hlt ((k : Int) % 4) (by omega) (by omega) [[(k : Int)]] (by simp [tot])
          refine Calls.mono (held_write ((hh.alloc _).alloc _) hops _ _ [[(k : Int)]] hlb (by simp) (by omega) (by omega)) ?_
          rintro e w' ⟨rfl, F', hh', _, _⟩
          exact ⟨by rw [e1], F', _, hh', ha1⟩
        go_wp2_with (first | (go_at_call 13; refine Calls.mono hwr.out ?_; rintro e w3 ⟨rfl, F3, s3, hh3, ha3⟩) | (go_at_call 12; refine (num_any _ _ (by omega) (by omega)).mono ?_; rintro e w2 ⟨rfl, hw2⟩; subst w2))
        refine ⟨⟨k + 1, F3, s3, by omega, by go_num, ha3, hh3⟩, ?_⟩
        simp [intOf]; omega
    · obtain rfl : k = n := by omega
      have ho : Off k s := ⟨armed_off ha, ha.2.2.1, ha.2.2.2.1, ha.2.2.2.2⟩
      clear ha
      go_wp2
      go_loopw [8] (fun i wr => ∃ (j : Nat) (F : Nat → Prop) (s : St), j ≤ m ∧ i = .int .i64 j ∧ Off k s ∧ Held w wr p F s) (fun i _ => m - (intOf i).toNat)
      case atStart => exact ⟨0, _, _, Nat.zero_le _, rfl, ho, hh⟩
      case round =>
        obtain ⟨j, F, s, hj, rfl, ho, hh⟩ := hrel
        have hops : s.ops < 17592186044416 := by rw [ho.2.1]; omega
        by_cases hlt2 : j < m
        · obtain ⟨e1, e2⟩ := off_write ho
          obtain ⟨ho2, hd2, e3⟩ := off_op ho
          have hwr := held_write hh hops 0 (.slice none 0 0) [] (listsB_nil _ _ _ _) (by simp) (by decide) (by decide)
          rw [e1, e2] at hwr
          have hops2 : s.op.ops < 17592186044416 := by rw [ho2.2.1]; omega
          obtain ⟨ho3, hd3⟩ := off_sync ho2
          have e4 := (off_op ho2).2.2
          have hsy : Hid (∀ W F, Held w W p F s.op → Calls Try.prog 17 #[.pointer (some ⟨p, 0, none⟩)] W fun e w' => e = .returned (.int .i64 20) ∧ ∃ F', Held w w' p F' s.op.sync) := by
            show ∀ W F, _ → _
            intro W F hW
            refine (held_sync hW hops2).mono ?_
            rintro e w' ⟨rfl, F', hh', _, _⟩
            exact ⟨by rw [e4], F', hh'⟩
          go_wp2_with (first | (go_at_call 13; refine hwr.mono ?_; rintro e w3 ⟨rfl, F3, hh3, _, _⟩) | (go_at_call 17; refine (hsy.out _ _ hh3).mono ?_; rintro e w4 ⟨rfl, F4, hh4⟩; have hde := dead_any hh4.disk; rw [hd3] at hde) | (go_at_call 23; refine hde.mono ?_; rintro e w2 ⟨rfl, hw2⟩; subst w2) | (go_at_call 12; refine (num_any _ _ (by omega) (by omega)).mono ?_; rintro e w2 ⟨rfl, hw2⟩; subst w2))
          refine ⟨⟨j + 1, F4, _, by omega, by go_num, ho3, hh4⟩, ?_⟩
          simp [intOf]; omega
        · obtain rfl : j = m := by omega
          have hcr := held_crash hh hops [] [] (.slice none 0 0) (.slice none 0 0) (ints_nil _) ⟨none, 0, rfl, .inl rfl⟩ (by simp) (by simp) (by simp) (by simp)
          have ec : (s.crash [] []).ops = k := ho.2.1
          have el : (s.crash [] []).live = true := rfl
          have ed : (s.crash [] []).dead = false := rfl
          have ee : (s.crash [] []).errOp = 0 := by simp [St.errOp, el]
          have hops2 : (s.crash [] []).ops < 17592186044416 := by rw [ec]; omega
          have hnx : Hid (∀ W F, Held w W p F (s.crash [] []) → (Calls Try.prog 24 #[.pointer (some ⟨p, 0, none⟩)] W fun e w' => e = .returned (.int .i64 k) ∧ w' = W) ∧ (Calls Try.prog 23 #[.pointer (some ⟨p, 0, none⟩)] W fun e w' => e = .returned (.bool false) ∧ w' = W) ∧ (Calls Try.prog 17 #[.pointer (some ⟨p, 0, none⟩)] W fun e w' => e = .returned (.int .i64 0) ∧ Below w.heap.size w w')) := by
            show ∀ W F, _ → _
            intro W F hW
            refine ⟨?_, ?_, ?_⟩
            · have := ops_any hW.disk; rw [ec] at this; exact this
            · have := dead_any hW.disk; rw [ed] at this; exact this
            · refine (held_sync hW hops2).mono ?_
              rintro e w' ⟨rfl, F', hh', _, _⟩
              exact ⟨by rw [ee], hh'.below⟩
          go_wp2_with (first | (go_at_call 21; refine hcr.mono ?_; rintro e w3 ⟨rfl, F3, hh3, _, _⟩; obtain ⟨x1, x2, x3⟩ := hnx.out _ _ hh3) | (go_at_call 24; refine x1.mono ?_; rintro e w4 ⟨rfl, hw4⟩; subst w4) | (go_at_call 23; refine x2.mono ?_; rintro e w4 ⟨rfl, hw4⟩; subst w4) | (go_at_call 17; refine x3.mono ?_; rintro e w4 ⟨rfl, hb4⟩) | (go_at_call 12; refine (num_any _ _ (by omega) (by omega)).mono ?_; rintro e w2 ⟨rfl, hw2⟩; subst w2) | (go_at_call 9; refine (live_any _).mono ?_; rintro e w5 ⟨rfl, hb5⟩))
          go_ret
          exact ⟨rfl, hb4.trans (hb5.mono hb4.size)⟩
end Go.Proofs.Ytcjmfibehofepaa
