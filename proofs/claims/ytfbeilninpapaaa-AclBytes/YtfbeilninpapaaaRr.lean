/- The document's Reader: New, fail, number, Uint. -/
import Derived.Test.YtfbeilninpapaaaTakeT
import Derived.Test.YtfbeilninpapaaaRound
import Derived.Test.YtfbeilninpapaaaRw
namespace Go.Proofs.Ytfbeilninpapaaa
set_option linter.unusedVariables false
open Go.RowKit
/-- What the document's number answers: the number, how many bytes it takes, the error. -/
def rrN (first : Bool) (n i : Nat) : List Int → Nat × Nat × Int
  | [] => (0, 0, 3)
  | c :: r => if first = true ∧ c = 128 then (0, 0, 10) else if 144115188075855871 < n then (0, 0, 11)
      else if c < 128 then (n * 128 + c.toNat % 128, i + 1, 0) else rrN false (n * 128 + c.toNat % 128) (i + 1) r
theorem rrN_of (bs : List Int) : ∀ (f : Bool) (n i m k : Nat), n ≤ 144115188075855871 → rdN f n i bs = (m, k, 0) → rrN f n i bs = (m, k, 0) := by
  induction bs with
  | nil => intro f n i m k _ h; simp [rdN] at h
  | cons c r ih =>
    intro f n i m k hn h
    rw [rdN] at h
    rw [rrN]
    by_cases h1 : f = true ∧ c = 128
    · rw [if_pos h1] at h; simp at h
    · rw [if_neg h1] at h ⊢
      rw [if_neg (by omega)]
      by_cases h2 : c < 128
      · rw [if_pos h2] at h ⊢; exact h
      · rw [if_neg h2] at h ⊢
        by_cases h3 : 144115188075855871 < n * 128 + c.toNat % 128
        · rw [if_pos h3] at h; simp at h
        · rw [if_neg h3] at h
          exact ih _ _ _ _ _ (by omega) h
theorem rrN_bounds (bs : List Int) : ∀ (f : Bool) (n i : Nat), n < 2 ^ 64 → (rrN f n i bs).1 < 2 ^ 64 ∧ ((rrN f n i bs).2.2 = 0 → i + 1 ≤ (rrN f n i bs).2.1 ∧ (rrN f n i bs).2.1 ≤ i + bs.length) := by
  induction bs with
  | nil => intro f n i _; simp [rrN]
  | cons c r ih =>
    intro f n i hn
    rw [rrN]
    by_cases h1 : f = true ∧ c = 128
    · rw [if_pos h1]; simp
    · rw [if_neg h1]
      by_cases h2 : 144115188075855871 < n
      · rw [if_pos h2]; simp
      · rw [if_neg h2]
        by_cases h3 : c < 128
        · rw [if_pos h3]; simp; omega
        · rw [if_neg h3]
          obtain ⟨a, b⟩ := ih false (n * 128 + c.toNat % 128) (i + 1) (by omega)
          refine ⟨a, fun h => ?_⟩
          have := b h
          simp only [List.length_cons]
          omega
theorem rrN_err (bs : List Int) : ∀ (f : Bool) (n i : Nat), (rrN f n i bs).2.2 = 0 ∨ (rrN f n i bs).2.2 = 3 ∨ (rrN f n i bs).2.2 = 10 ∨ (rrN f n i bs).2.2 = 11 := by
  induction bs with
  | nil => intro f n i; simp [rrN]
  | cons c r ih =>
    intro f n i
    rw [rrN]
    split
    · simp
    · split
      · simp
      · split
        · simp
        · exact ih _ _ _
/-- A Reader in block g: its bytes (in blocks from lo on, below g), its place, its error. -/
def IsRd (w : World) (lo g : Nat) (bs : List Int) (pl : Nat) (err : Int) : Prop :=
  ∃ a n c sp, w.heap[g]? = some (.cells #[.slice a n c, .int .i64 pl, .int .i64 err, .int .i64 sp] 74 (0, 0)) ∧ Bts w (.slice a n c) bs ∧ (lo ≤ g ∧ ∀ k, (Value.slice a n c).ownBlock = some k → lo ≤ k ∧ k < g) ∧ pl ≤ bs.length
theorem rd_cells {w : World} {g : Nat} {C : Array Value} (h : w.heap[g]? = some (.cells C 74 (0, 0))) (i : Nat) (v : Value) (hv : C[i]? = some v) : w.cell? ⟨g, i, none⟩ = some v ∧ w.frozen? ⟨g, i, none⟩ = false := by
  simp [World.cell?, World.frozen?, h, hv]
section
variable {w W : World} {lo g pl : Nat} {bs : List Int} {err : Int}
theorem IsRd.lt (hs : IsRd w lo g bs pl err) : g < w.heap.size := by
  obtain ⟨a, n, c, sp, hg, _⟩ := hs
  exact lt_of_block hg
theorem rd_stay (hs : IsRd w lo g bs pl err) (hW : Below w.heap.size w W) : IsRd W lo g bs pl err ∧ w.grownBy W (some g) := by
  have hlt := hs.lt
  obtain ⟨a, n, c, sp, hg, hb, hk, hpl⟩ := hs
  exact ⟨⟨a, n, c, sp, (hW.block g hlt).trans hg, hb.grow hW, hk, hpl⟩, grownBy_below hW _⟩
theorem rd_move (hs : IsRd w lo g bs pl err) (pl' : Nat) (h : pl' ≤ bs.length) : IsRd (w.setCell ⟨g, 1, none⟩ (.int .i64 pl')) lo g bs pl' err ∧ w.grownBy (w.setCell ⟨g, 1, none⟩ (.int .i64 pl')) (some g) := by
  obtain ⟨a, n, c, sp, hg, hb, hk, hpl⟩ := hs
  refine ⟨⟨a, n, c, sp, ?_, hb.other (Below.refl _ _) (fun k h => Nat.ne_of_lt (hk.2 k h).2), hk, h⟩, grownBy_set (Below.refl _ _) _ _ _⟩
  rw [block_setCell hg]; rfl
theorem grown_trans {w w1 w2 : World} {g : Option Nat} (h1 : w.grownBy w1 g) (h2 : w1.grownBy w2 g) : w.grownBy w2 g :=
  ⟨h2.os.trans h1.os, h2.tape.trans h1.tape, h2.output.trans h1.output, Nat.le_trans h1.size h2.size, fun k hk hne => (h2.block k (Nat.lt_of_lt_of_le hk h1.size) hne).trans (h1.block k hk hne)⟩
/-- A Reader stays while a block is written that is none of its own. -/
theorem rd_other {row : Nat} (hs : IsRd w lo g bs pl err) (hW : w.grownBy W (some row)) (hr : row < lo ∨ g < row) : IsRd W lo g bs pl err := by
  have hlt := hs.lt
  obtain ⟨a, n, c, sp, hg, hb, hk, hpl⟩ := hs
  refine ⟨a, n, c, sp, (hW.block g hlt (by simp; omega)).trans hg, ?_, hk, hpl⟩
  obtain ⟨a', c', e, hn, h1⟩ := hb
  cases e
  refine ⟨a, c, rfl, hn, ?_⟩
  rcases h1 with h1 | ⟨b, o, rfl, hr2⟩
  · exact .inl h1
  · refine .inr ⟨b, o, rfl, fun t h0 ht => ?_⟩
    have hbb := hk.2 b rfl
    exact hW.cell (hr2 t h0 ht) (by simp; omega)
end
set_option maxRecDepth 100000 in
set_option maxHeartbeats 1000000 in
/-- fail, where there is no error yet. -/
theorem rfail_ok (lo g : Nat) (bs : List Int) (pl : Nat) (er : Int) (p : Nat) (w : World) (hs : IsRd w lo g bs pl 0) (hp : p ≤ bs.length) :
    Calls Try.prog 54 #[.pointer (some ⟨g, 0, none⟩), .int .i64 er, .int .i64 p] w fun e w' => e = .returned (.tuple #[]) ∧ IsRd w' lo g bs p er ∧ w.grownBy w' (some g) := by
  obtain ⟨a, n, c, sp, hg, hb, hk, hpl⟩ := hs
  obtain ⟨c0, f0⟩ := rd_cells hg 0 _ rfl
  obtain ⟨c1, f1⟩ := rd_cells hg 1 _ rfl
  obtain ⟨c2, f2⟩ := rd_cells hg 2 _ rfl
  obtain ⟨c3, f3⟩ := rd_cells hg 3 _ rfl
  have hfin : Hid (IsRd (((w.setCell ⟨g, 2, none⟩ (.int .i64 er)).setCell ⟨g, 3, none⟩ (.int .i64 p)).setCell ⟨g, 1, none⟩ (.int .i64 p)) lo g bs p er ∧ w.grownBy (((w.setCell ⟨g, 2, none⟩ (.int .i64 er)).setCell ⟨g, 3, none⟩ (.int .i64 p)).setCell ⟨g, 1, none⟩ (.int .i64 p)) (some g)) := by
    have hne : ∀ k, (Value.slice a n c).ownBlock = some k → k ≠ g := fun k h => Nat.ne_of_lt (hk.2 k h).2
    refine ⟨⟨a, n, c, p, ?_, ?_, hk, hp⟩, ?_⟩
    · rw [block_setCell (block_setCell (block_setCell hg))]; rfl
    · have h1 := hb.other (i := 2) (u := .int .i64 er) (Below.refl _ w) hne
      have h2 := h1.other (i := 3) (u := .int .i64 (p : Int)) (Below.refl _ _) hne
      exact h2.other (i := 1) (u := .int .i64 (p : Int)) (Below.refl _ _) hne
    · exact grown_trans (grown_trans (grownBy_set (Below.refl _ _) _ _ _) (grownBy_set (Below.refl _ _) _ _ _)) (grownBy_set (Below.refl _ _) _ _ _)
  clear hg hb hk
  go_enter Try.func54, Try.ntmps54
  go_wp2
  go_end0
  exact ⟨rfl, hfin.out⟩
theorem Bts.at {w : World} {a : Option Addr} {n c : Nat} {bs : List Int} (h : Bts w (.slice a n c) bs) (i : Nat) (hi : i < bs.length) : ∃ b o, a = some ⟨b, o, none⟩ ∧ w.cell? ⟨b, o + i, none⟩ = some (.int .u8 (bs.getD i 0)) := by
  obtain ⟨a', c', e, _, h⟩ := h
  cases e
  rcases h with h | ⟨b, o, rfl, hr⟩
  · rw [h] at hi; simp at hi
  · exact ⟨b, o, rfl, hr i (Nat.zero_le _) hi⟩
theorem bts_len' {w : World} {a : Option Addr} {n c : Nat} {bs : List Int} (h : Bts w (.slice a n c) bs) : n = bs.length := by
  obtain ⟨a', c', e, _, h⟩ := h
  cases e; rfl
/-- Behind the document's reading of R from pl on, which was begun at p: the place. -/
def rnQ {α : Type} (pl p : Nat) (R : α × Nat × Int) : Nat := if R.2.2 = 0 then pl + R.2.1 else p
theorem rrN_at (bs : List Int) (pl k n : Nat) (x : Int) (hlt : pl + k < bs.length) (hx : x = bs.getD (pl + k) 0) (hr : rrN (decide (k = 0)) n k (bs.drop (pl + k)) = rrN true 0 0 (bs.drop pl)) :
    rrN true 0 0 (bs.drop pl) = if k = 0 ∧ x = 128 then (0, 0, 10) else if 144115188075855871 < n then (0, 0, 11) else if x < 128 then (n * 128 + x.toNat % 128, k + 1, 0) else rrN false (n * 128 + x.toNat % 128) (k + 1) (bs.drop (pl + k + 1)) := by
  rw [← hr, drop_at bs (pl + k) hlt, ← hx, rrN]; simp
set_option maxRecDepth 100000 in
set_option maxHeartbeats 4000000 in
theorem rnumber_ok (lo g : Nat) (bs : List Int) (pl p : Nat) (w : World) (hs : IsRd w lo g bs pl 0) (hby : IsBytes bs) (hlen : bs.length ≤ 1000000000) (hp : p ≤ bs.length) :
    Calls Try.prog 55 #[.pointer (some ⟨g, 0, none⟩), .int .i64 p] w fun e w' => e = .returned (.int .u64 ((rrN true 0 0 (bs.drop pl)).1 : Nat)) ∧ IsRd w' lo g bs (rnQ pl p (rrN true 0 0 (bs.drop pl))) (rrN true 0 0 (bs.drop pl)).2.2 ∧ w.grownBy w' (some g) := by
  have hF := fun er => rfail_ok lo g bs pl er p w hs hp
  have hmv := fun q h => rd_move hs q h
  have hpl : pl ≤ bs.length := by obtain ⟨_, _, _, _, _, _, _, h⟩ := hs; exact h
  obtain ⟨a, n0, c, sp, hg, hb, hk, _⟩ := hs
  obtain rfl := bts_len' hb
  obtain ⟨c0, f0⟩ := rd_cells hg 0 _ rfl
  obtain ⟨c1, f1⟩ := rd_cells hg 1 _ rfl
  obtain ⟨c2, f2⟩ := rd_cells hg 2 _ rfl
  replace hb : Hid (Bts w (.slice a bs.length c) bs) := hb
  replace hmv : Hid (∀ q, q ≤ bs.length → IsRd (w.setCell ⟨g, 1, none⟩ (.int .i64 q)) lo g bs q 0 ∧ w.grownBy (w.setCell ⟨g, 1, none⟩ (.int .i64 q)) (some g)) := hmv
  replace hby : Hid (IsBytes bs) := hby
  clear hg hk
  have hRb := rrN_bounds (bs.drop pl) true 0 0 (by decide)
  generalize hRR : rrN true 0 0 (bs.drop pl) = R at *
  replace hRb : Hid _ := hRb
  replace hF : Hid _ := hF
  go_enter Try.func55, Try.ntmps55
  go_wp2
  go_loop [5, 6] (fun x i => ∃ (k n : Nat), pl + k ≤ bs.length ∧ i = .int .i64 ((pl + k : Nat) : Int) ∧ x = .int .u64 n ∧ Hid (n < 2 ^ 64) ∧ Hid (rrN (decide (k = 0)) n k (bs.drop (pl + k)) = R))
    (fun _ i => bs.length - (intOf i).toNat)
  case atStart => exact ⟨0, 0, by omega, rfl, rfl, (by decide : (0 : Nat) < 2 ^ 64), (show _ = _ by simpa using hRR)⟩
  case round =>
    obtain ⟨k, n, hk, rfl, rfl, hn, hr⟩ := hrel
    by_cases hlt : pl + k < bs.length
    · obtain ⟨b, o, rfl, hc⟩ := hb.out.at (pl + k) hlt
      have hcb := hby.out _ (getD_mem bs 0 (pl + k) hlt)
      have HR := rrN_at bs pl k n (bs.getD (pl + k) 0) hlt rfl (by rw [hRR]; exact hr.out)
      rw [hRR] at HR
      generalize bs.getD (pl + k) 0 = x at *
      obtain ⟨y, hy⟩ : ∃ y, y = x.toNat % 128 := ⟨_, rfl⟩
      have hmx : x.tmod 128 = (y : Int) := by rw [hy, Int.tmod_eq_emod_of_nonneg hcb.1]; omega
      have hy128 : y < 128 := by omega
      rw [← hy] at HR
      replace hy : Hid _ := hy
      obtain ⟨m, hm⟩ : ∃ m, m = n * 128 + y := ⟨_, rfl⟩
      rw [← hm] at HR
      replace HR : Hid (_ = _) := HR
      have hI : ((pl + k : Nat) : Int) < (bs.length : Int) := by omega
      obtain ⟨i, hi⟩ : ∃ i, i = pl + k := ⟨_, rfl⟩
      have hi2 : Hid (i = pl + k) := hi
      rw [← hi] at hc hI hlt ⊢
      have hid : decide ((bs.length : Int) ≤ (i : Int)) = false := by simp; omega
      have hii : ¬ (bs.length : Int) ≤ (i : Int) := by omega
      by_cases h0 : k = 0
      · have hb0 : ((i : Int) == (pl : Int)) = true := by simp; omega
        by_cases h128 : x = 128
        · have e : (x == 128) = true := by simp [h128]
          replace HR : Hid (_ = _) := HR.out.trans (if_pos ⟨h0, h128⟩)
          clear hi h128 h0
          go_wp2_with (first | (go_at_call 54; refine (hF.out 10).mono ?_; rintro e w1 ⟨rfl, hI1, hg1⟩; replace hI1 : Hid _ := hI1; replace hg1 : Hid _ := hg1))
          go_ret
          exact ⟨by rw [HR.out]; rfl, by rw [HR.out]; exact hI1.out, hg1.out⟩
        · have e : (x == 128) = false := by simp [h128]
          replace HR : Hid (_ = _) := HR.out.trans (if_neg (fun h => h128 h.2))
          clear hi h128 h0
          by_cases hw : 144115188075855871 < n
          · replace HR : Hid (_ = _) := HR.out.trans (if_pos hw)
            go_wp2_with (first | (go_at_call 54; refine (hF.out 11).mono ?_; rintro e w1 ⟨rfl, hI1, hg1⟩; replace hI1 : Hid _ := hI1; replace hg1 : Hid _ := hg1))
            go_ret
            exact ⟨by rw [HR.out]; rfl, by rw [HR.out]; exact hI1.out, hg1.out⟩
          · replace HR : Hid (_ = _) := HR.out.trans (if_neg hw)
            have hm64 : m < 2 ^ 64 := by omega
            have hmi : (n : Int) * 128 + (y : Int) = (m : Int) := by omega
            replace hmi : Hid _ := hmi
            replace hm : Hid _ := hm
            by_cases hx128 : x < 128
            · replace HR : Hid (_ = _) := HR.out.trans (if_pos hx128)
              have hm2 := hmv.out (i + 1) (by omega)
              replace hm2 : Hid _ := hm2
              go_wp2
              go_ret
              refine ⟨by rw [HR.out]; show _ = Ending.returned (.int .u64 (m : Int)); rw [← hmi.out]; rfl, by rw [HR.out]; show IsRd _ _ _ _ (pl + (k + 1)) 0; rw [show pl + (k + 1) = i + 1 by have := hi2.out; omega]; exact hm2.out.1, hm2.out.2⟩
            · replace HR : Hid (_ = _) := HR.out.trans (if_neg hx128)
              go_wp2
              go_round
              case rel => exact ⟨k + 1, m, by have := hi2.out; omega, by have := hi2.out; go_num, by rw [← hmi.out], hm64, (show _ = _ by rw [HR.out, decide_eq_false (by omega)]; rfl)⟩
              case measure => simp [intOf]; omega
      · have hb0 : ((i : Int) == (pl : Int)) = false := by simp; omega
        replace HR : Hid (_ = _) := HR.out.trans (if_neg (fun h => h0 h.1))
        clear hi h0
        by_cases hw : 144115188075855871 < n
        · replace HR : Hid (_ = _) := HR.out.trans (if_pos hw)
          go_wp2_with (first | (go_at_call 54; refine (hF.out 11).mono ?_; rintro e w1 ⟨rfl, hI1, hg1⟩; replace hI1 : Hid _ := hI1; replace hg1 : Hid _ := hg1))
          go_ret
          exact ⟨by rw [HR.out]; rfl, by rw [HR.out]; exact hI1.out, hg1.out⟩
        · replace HR : Hid (_ = _) := HR.out.trans (if_neg hw)
          have hm64 : m < 2 ^ 64 := by omega
          have hmi : (n : Int) * 128 + (y : Int) = (m : Int) := by omega
          replace hmi : Hid _ := hmi
          replace hm : Hid _ := hm
          by_cases hx128 : x < 128
          · replace HR : Hid (_ = _) := HR.out.trans (if_pos hx128)
            have hm2 := hmv.out (i + 1) (by omega)
            replace hm2 : Hid _ := hm2
            go_wp2
            go_ret
            refine ⟨by rw [HR.out]; show _ = Ending.returned (.int .u64 (m : Int)); rw [← hmi.out]; rfl, by rw [HR.out]; show IsRd _ _ _ _ (pl + (k + 1)) 0; rw [show pl + (k + 1) = i + 1 by have := hi2.out; omega]; exact hm2.out.1, hm2.out.2⟩
          · replace HR : Hid (_ = _) := HR.out.trans (if_neg hx128)
            go_wp2
            go_round
            case rel => exact ⟨k + 1, m, by have := hi2.out; omega, by have := hi2.out; go_num, by rw [← hmi.out], hm64, (show _ = _ by rw [HR.out, decide_eq_false (by omega)]; rfl)⟩
            case measure => simp [intOf]; omega
    · have HR : Hid (R = (0, 0, 3)) := by
        show _ = _
        rw [← hr.out, List.drop_of_length_le (by omega)]; rfl
      obtain ⟨i, hi⟩ : ∃ i, i = pl + k := ⟨_, rfl⟩
      rw [← hi] at hlt hk ⊢
      have hid : decide ((bs.length : Int) ≤ (i : Int)) = true := by simp; omega
      have hii : (bs.length : Int) ≤ (i : Int) := by omega
      clear hi
      go_wp2_with (first | (go_at_call 54; refine (hF.out 3).mono ?_; rintro e w1 ⟨rfl, hI1, hg1⟩; replace hI1 : Hid _ := hI1; replace hg1 : Hid _ := hg1))
      go_ret
      exact ⟨by rw [HR.out]; rfl, by rw [HR.out]; exact hI1.out, hg1.out⟩
end Go.Proofs.Ytfbeilninpapaaa
