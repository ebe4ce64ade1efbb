/- States of a disk with metas: the mathematics; what live() comes through. -/
import Derived.Test.YtcgjolonapndgabDoorSafeM
namespace Go.Proofs.YtcgjolonapndgabDoor
open Go.RowKit Go.Maps Go.ChangeMaps Go.MapKept
/-- The second Seq of a meta's bytes is the first one. -/
theorem isMeta_last {bs : List Int} (h : isMeta bs = true) : (bs.drop 28).take 8 = be 8 (seqOf bs) := by
  obtain ⟨_, h2, _⟩ := isMeta_eq h
  have h3 := congrArg (List.drop 28) h2
  rw [List.drop_take] at h3
  rw [← h3]
  unfold metaB
  rw [List.drop_left' (by simp [mhead_len, mk_len])]
theorem cnt_same {s t : St} (per : Int) (h1 : s.sectors = t.sectors) (h2 : s.size = t.size) : cnt s per = cnt t per := by
  unfold cnt; rw [h1, h2]
theorem writeM_live {s : St} {per : Int} {q : Nat} {r k d : Int} (hl : s.live = true) (hc : ¬ cnt s per < 2) (hm : mok q r k d) (hz : 36 ≤ s.size) :
    s.errM per q r k d = 0 ∧ s.writeM per q r k d = s.op.wrote (((q % 2 : Nat) : Int) * per) (padded s.size (metaB q r k d)) := by
  have hp := cnt_per hc
  have hn : 0 ≤ ((q % 2 : Nat) : Int) * per ∧ ((q % 2 : Nat) : Int) * per < s.sectors := by
    have : q % 2 = 0 ∨ q % 2 = 1 := by omega
    rcases this with h | h <;> rw [h] <;> simp <;> omega
  have ht : tot [metaB q r k d] ≤ s.size := by simp [tot, metaB_len]; exact hz
  constructor
  · unfold St.errM
    rw [if_neg (by simp [hc, hm])]
    unfold St.errWrite
    rw [if_pos hn, if_pos ht]
    simp [St.errOp, hl]
  · unfold St.writeM
    rw [if_neg (by simp [hc, hm])]
    unfold St.write
    rw [if_pos hn, if_pos ht, if_pos hl]
    simp
theorem writeM_dead {s : St} {per : Int} {q : Nat} {r k d : Int} (hl : s.live = false) (hc : ¬ cnt s per < 2) (hm : mok q r k d) (hz : 36 ≤ s.size) :
    s.errM per q r k d = 20 ∧ s.writeM per q r k d = s.op := by
  have hp := cnt_per hc
  have hn : 0 ≤ ((q % 2 : Nat) : Int) * per ∧ ((q % 2 : Nat) : Int) * per < s.sectors := by
    have : q % 2 = 0 ∨ q % 2 = 1 := by omega
    rcases this with h | h <;> rw [h] <;> simp <;> omega
  have ht : tot [metaB q r k d] ≤ s.size := by simp [tot, metaB_len]; exact hz
  constructor
  · unfold St.errM
    rw [if_neg (by simp [hc, hm])]
    unfold St.errWrite
    rw [if_pos hn, if_pos ht]
    simp [St.errOp, hl]
  · unfold St.writeM
    rw [if_neg (by simp [hc, hm])]
    unfold St.write
    rw [if_pos hn, if_pos ht, if_neg (by simp [hl])]
theorem byt_writeM {s : St} (h : Byt s) (per : Int) (q : Nat) (r k d : Int) : Byt (s.writeM per q r k d) := by
  unfold St.writeM
  split
  · exact h
  · exact byt_write h _ _ (by simpa using metaB_bytes q r k d)
/-- A sector that holds a meta. -/
theorem stM_meta (size T q : Nat) (r k d : Int) (hq : q < 2 ^ 64) (h : mok q r k d) : stM (padded size (metaB q r k d)) T = if q % 2 = T then ⟨q, r, k, d⟩ else Mt.zero := by
  have h0 : ∀ x ∈ zeros (size - (metaB q r k d).length), x = 0 := fun x hx => List.eq_of_mem_replicate hx
  have h1 := isMeta_meta q r k d (zeros (size - (metaB q r k d).length)) hq h h0
  have h2 := seqOf_meta q r k d (zeros (size - (metaB q r k d).length)) hq
  have h3 := root_ok q r k d (zeros (size - (metaB q r k d).length)) h.2.1 h.2.2.1
  have h4 := keysI_meta q r k d (zeros (size - (metaB q r k d).length)) (by have := h.2.2.2.1; omega) (by have := h.2.2.2.2.1; omega)
  have h5 := depth_ok q r k d (zeros (size - (metaB q r k d).length)) h.2.2.2.2.2.1 h.2.2.2.2.2.2
  unfold stM padded
  rw [h1, h2]
  by_cases hT : q % 2 = T
  · rw [if_pos ⟨rfl, hT⟩, if_pos hT]
    unfold mtOf
    rw [h2, h3, h4, h5]
  · rw [if_neg (fun hh => hT hh.2), if_neg hT]
theorem ofBe_zeros (n : Nat) : ofBe (zeros n) = 0 := by
  induction n with
  | zero => rfl
  | succ n ih =>
    unfold zeros at *
    rw [List.replicate_succ', ofBe_snoc, ih]
    rfl
theorem seqOf_zeros (n : Nat) : seqOf (zeros n) = 0 := by
  unfold seqOf
  rw [List.drop_zero, show (zeros n).take 8 = zeros (min 8 n) by simp [zeros, List.take_replicate]]
  exact ofBe_zeros _
theorem not_zeros (n : Nat) : isMeta (zeros n) = false := by
  cases h : isMeta (zeros n) with
  | false => rfl
  | true => exact absurd (seqOf_zeros n) (isMeta_mok h).1
theorem stM_zeros (n T : Nat) : stM (zeros n) T = Mt.zero := if_neg fun h => by rw [not_zeros] at h; cases h.1
/-- What live() comes through. -/
def lvA : St := St.new 8 64
def lvB : St := lvA.writeM 2 1 3 4 1
def lvC : St := lvB.sync
def lvD : St := lvC.writeM 2 2 0 0 0
def lvE : St := lvD.crash [] [(0, 35)]
theorem lvA_cnt : ¬ cnt lvA 2 < 2 := by decide
theorem mok1 : mok 1 3 4 1 := by decide
theorem mok2 : mok 2 0 0 0 := by decide
theorem lvB_is : lvA.errM 2 1 3 4 1 = 0 ∧ lvB = { lvA with fresh := upd (fun _ => none) 2 (some (padded 64 (metaB 1 3 4 1))), ops := 1 } := by
  have h := writeM_live (s := lvA) (per := 2) (q := 1) (r := 3) (k := 4) (d := 1) (by decide) lvA_cnt mok1 (by decide)
  exact ⟨h.1, h.2⟩
theorem lvC_is : lvB.errOp = 0 ∧ lvC.sectors = 8 ∧ lvC.size = 64 ∧ lvC.dead = false ∧ lvC.left = -1 ∧ lvC.ops = 2 ∧ lvC.fresh = (fun _ => none) ∧ lvC.safe 0 = zeros 64 ∧ lvC.safe 2 = padded 64 (metaB 1 3 4 1) := by
  unfold lvC
  rw [lvB_is.2]
  refine ⟨rfl, rfl, rfl, rfl, rfl, rfl, rfl, rfl, ?_⟩
  have hl : (padded 64 (metaB 1 3 4 1)).length = 64 := padded_len _ _ (by rw [metaB_len]; omega)
  show over ((padded 64 (metaB 1 3 4 1)).take 64) (zeros 64) = _
  rw [List.take_of_length_le (by omega)]
  unfold over
  rw [List.drop_eq_nil_of_le (by rw [hl]; simp [zeros])]
  simp
theorem lvD_is : lvC.errM 2 2 0 0 0 = 0 ∧ lvD = lvC.op.wrote 0 (padded 64 (metaB 2 0 0 0)) := by
  obtain ⟨_, h1, h2, h3, h4, h5, _⟩ := lvC_is
  have h := writeM_live (s := lvC) (per := 2) (q := 2) (r := 0) (k := 0) (d := 0) (by simp [St.live, h3, h4]) (by rw [cnt_same 2 h1 h2 (t := lvA)]; exact lvA_cnt) mok2 (by rw [h2]; omega)
  rw [h2] at h
  exact h
end Go.Proofs.YtcgjolonapndgabDoor
