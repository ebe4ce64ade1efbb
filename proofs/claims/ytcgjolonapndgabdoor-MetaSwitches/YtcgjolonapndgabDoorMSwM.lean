/- Metas in turn, whenever the power fails: the mathematics. -/
import Derived.Test.YtcgjolonapndgabDoorMLive
namespace Go.Proofs.YtcgjolonapndgabDoor
set_option linter.unusedVariables false
open Go.RowKit Go.Maps Go.ChangeMaps Go.MapKept
/-- A sector in which metas of small Seqs were written, whole or torn. -/
def Sec (X : List Int) : Prop := X.length = 64 ∧ (∀ i, i < 7 → X.getD i 0 = 0) ∧ ∀ i, 36 ≤ i → X.getD i 0 = 0
/-- The sector of a Seq. -/
def sct (q : Nat) : Int := ((q % 2 : Nat) : Int) * 2
structure Sw (s : St) (m : Mt) : Prop where
  sectors : s.sectors = 8
  size : s.size = 64
  alive : s.dead = false
  byt : Byt s
  still : ∀ n, s.fresh n = none
  secs : ∀ q, Sec (s.safe (sct q))
  pos : 1 ≤ m.q
  was : stM (s.safe (sct m.q)) (m.q % 2) = m
  old : (stM (s.safe (sct (m.q + 1))) ((m.q + 1) % 2)).q < m.q
  last : (s.safe (sct (m.q + 1))).getD 35 0 ≠ (((m.q + 1) % 256 : Nat) : Int)
theorem sct_two (q : Nat) : sct (q + 1 + 1) = sct q := by unfold sct; rw [show (q + 1 + 1) % 2 = q % 2 by omega]
theorem sct_ne (q : Nat) : sct (q + 1) ≠ sct q := by unfold sct; omega
theorem sct_or (q : Nat) : sct q = 0 ∨ sct q = 2 := by unfold sct; omega
theorem sct_cover (q n : Nat) : sct n = sct q ∨ sct n = sct (q + 1) := by unfold sct; omega
theorem cnt_8 {s : St} (h1 : s.sectors = 8) (h2 : s.size = 64) : ¬ cnt s 2 < 2 := by
  rw [cnt_same 2 (t := lvA) h1 h2]; exact lvA_cnt
theorem zeros_get (n i : Nat) : (zeros n).getD i 0 = 0 := by
  unfold zeros
  rw [List.getD_eq_getElem?_getD, List.getElem?_replicate]
  split <;> rfl
theorem ext_get {a b : List Int} (h : a.length = b.length) (hg : ∀ i, a.getD i 0 = b.getD i 0) : a = b := by
  refine List.ext_getElem h fun i h1 h2 => ?_
  have := hg i
  simpa [List.getD_eq_getElem?_getD, h1, h2] using this
theorem be8_low (n : Nat) (h : n < 256) (i : Nat) (hi : i < 7) : (be 8 n).getD i 0 = 0 := by
  have e : ∀ k, 1 ≤ k → n / 256 ^ k = 0 := fun k hk => Nat.div_eq_of_lt (Nat.lt_of_lt_of_le h (by
    have := Nat.pow_le_pow_right (n := 256) (by omega) hk
    simpa using this))
  rw [be_cons, be_cons, be_cons, be_cons, be_cons, be_cons, be_cons, e 7 (by omega), e 6 (by omega), e 5 (by omega), e 4 (by omega), e 3 (by omega), e 2 (by omega), e 1 (by omega)]
  match i, hi with
  | 0, _ => rfl
  | 1, _ => rfl
  | 2, _ => rfl
  | 3, _ => rfl
  | 4, _ => rfl
  | 5, _ => rfl
  | 6, _ => rfl
theorem getD_of_take {a b : List Int} {n i : Nat} (h : a.take n = b) (hi : i < n) : a.getD i 0 = b.getD i 0 := by
  rw [← h]
  simp [List.getD_eq_getElem?_getD, hi]
section
variable (q : Nat) (r k d : Int)
theorem padm_len : (padded 64 (metaB q r k d)).length = 64 := padded_len _ _ (by rw [metaB_len]; omega)
theorem padm_sec (hq : q < 256) : Sec (padded 64 (metaB q r k d)) := by
  refine ⟨padm_len q r k d, fun i hi => ?_, fun i hi => ?_⟩
  · rw [getD_of_take (meta_take 64 q r k d) (by omega)]
    exact be8_low q hq i hi
  · unfold padded
    rw [List.getD_eq_getElem?_getD, List.getElem?_append_right (by rw [metaB_len]; omega)]
    unfold zeros
    by_cases h : i - (metaB q r k d).length < 64 - (metaB q r k d).length
    · simp [h]
    · simp [h]
end
theorem over_get (x old : List Int) (hx : x.length = 64) (ho : old.length = 64) (L : Nat) : (over (x.take L) old).length = 64 ∧ ∀ i, (over (x.take L) old).getD i 0 = if i < L then x.getD i 0 else old.getD i 0 := by
  have hl : (x.take L).length = min L 64 := by rw [List.length_take, hx]
  constructor
  · unfold over
    rw [List.length_append, List.length_drop, hl, ho]; omega
  · intro i
    unfold over
    by_cases h1 : i < min L 64
    · rw [List.getD_eq_getElem?_getD, List.getElem?_append_left (by rw [hl]; exact h1), List.getElem?_take, if_pos (by omega), if_pos (by omega), List.getD_eq_getElem?_getD]
    · rw [List.getD_eq_getElem?_getD, List.getElem?_append_right (by rw [hl]; omega), List.getElem?_drop, hl, show min L 64 + (i - min L 64) = i by omega, ← List.getD_eq_getElem?_getD]
      by_cases h2 : i < L
      · rw [if_pos h2]
        have h3 : 64 ≤ i := by omega
        simp [List.getD_eq_getElem?_getD, hx, ho, h3]
      · rw [if_neg h2]
theorem stM_is {bs : List Int} {T : Nat} {m : Mt} (h : stM bs T = m) (hm : 1 ≤ m.q) : isMeta bs = true ∧ seqOf bs = m.q := by
  unfold stM at h
  split at h
  · rename_i hh
    exact ⟨hh.1, by rw [← h]; rfl⟩
  · rw [← h] at hm
    exact absurd hm (by decide)
theorem meta_35 {bs : List Int} (h : isMeta bs = true) : bs.getD 35 0 = ((seqOf bs % 256 : Nat) : Int) := by
  have := torn_no (bs := bs)
  by_cases e : bs.getD 35 0 = ((seqOf bs % 256 : Nat) : Int)
  · exact e
  · rw [this e] at h; cases h
/-- What a crash around a write leaves: what was, or what was written. -/
theorem sw_torn {s s2 : St} {m : Mt} (h : Sw s m) (hm : m.q ≤ 100) (r k d : Int) (hk : mok (m.q + 1) r k d) (L : Nat) (h1 : s2.sectors = 8) (h2 : s2.size = 64) (h3 : s2.dead = false) (h4 : Byt s2) (h5 : ∀ n, s2.fresh n = none)
    (h6 : s2.safe (sct (m.q + 1)) = over ((padded 64 (metaB (m.q + 1) r k d)).take L) (s.safe (sct (m.q + 1)))) (h7 : s2.safe (sct m.q) = s.safe (sct m.q)) : (36 ≤ L → Sw s2 ⟨m.q + 1, r, k, d⟩) ∧ (L < 36 → Sw s2 m) := by
  have hx := padm_sec (m.q + 1) r k d (by omega)
  obtain ⟨o1, o2, o3⟩ := h.secs (m.q + 1)
  obtain ⟨y1, y2⟩ := over_get _ _ hx.1 o1 L
  rw [← h6] at y1 y2
  have hsec : ∀ n, Sec (s2.safe (sct n)) := fun n => by
    rcases sct_cover m.q n with e | e
    · rw [e, h7]; exact h.secs _
    · rw [e]
      refine ⟨y1, fun i hi => ?_, fun i hi => ?_⟩
      · rw [y2]; split
        · exact hx.2.1 i hi
        · exact o2 i hi
      · rw [y2]; split
        · exact hx.2.2 i hi
        · exact o3 i hi
  constructor
  · intro hL
    have he : s2.safe (sct (m.q + 1)) = padded 64 (metaB (m.q + 1) r k d) := by
      refine ext_get (by rw [y1, hx.1]) fun i => ?_
      rw [y2]
      split
      · rfl
      · rw [o3 i (by omega), hx.2.2 i (by omega)]
    obtain ⟨w1, w2⟩ := stM_is h.was h.pos
    refine ⟨h1, h2, h3, h4, h5, hsec, by show 1 ≤ m.q + 1; omega, ?_, ?_, ?_⟩
    · show stM (s2.safe (sct (m.q + 1))) ((m.q + 1) % 2) = _
      rw [he, stM_meta _ _ _ _ _ _ (by omega) hk, if_pos rfl]
    · show (stM (s2.safe (sct (m.q + 1 + 1))) ((m.q + 1 + 1) % 2)).q < m.q + 1
      rw [sct_two, h7, show (m.q + 1 + 1) % 2 = m.q % 2 by omega, h.was]
      omega
    · show (s2.safe (sct (m.q + 1 + 1))).getD 35 0 ≠ (((m.q + 1 + 1) % 256 : Nat) : Int)
      rw [sct_two, h7, meta_35 w1, w2]
      omega
  · intro hL
    have hsame : (s2.safe (sct (m.q + 1))).getD 35 0 = (s.safe (sct (m.q + 1))).getD 35 0 := by
      rw [y2, if_neg (by omega)]
    refine ⟨h1, h2, h3, h4, h5, hsec, h.pos, by rw [h7]; exact h.was, ?_, by rw [hsame]; exact h.last⟩
    by_cases h8 : L ≤ 7
    · have he : s2.safe (sct (m.q + 1)) = s.safe (sct (m.q + 1)) := by
        refine ext_get (by rw [y1, o1]) fun i => ?_
        rw [y2]
        split
        · rw [hx.2.1 i (by omega), o2 i (by omega)]
        · rfl
      rw [he]; exact h.old
    · have hs : seqOf (s2.safe (sct (m.q + 1))) = m.q + 1 := by
        refine seqOf_take (by omega) ?_
        rw [← meta_take 64 (m.q + 1) r k d]
        refine ext_get (by rw [List.length_take, List.length_take, y1, hx.1]) fun i => ?_
        by_cases hi : i < 8
        · rw [List.getD_eq_getElem?_getD, List.getElem?_take, if_pos hi, List.getD_eq_getElem?_getD, List.getElem?_take, if_pos hi, ← List.getD_eq_getElem?_getD, ← List.getD_eq_getElem?_getD, y2, if_pos (by omega)]
        · simp [List.getD_eq_getElem?_getD, List.getElem?_take, hi]
      have hn : isMeta (s2.safe (sct (m.q + 1))) = false := torn_no (by rw [hs, hsame]; exact h.last)
      rw [show stM (s2.safe (sct (m.q + 1))) ((m.q + 1) % 2) = Mt.zero from if_neg fun hh => by rw [hn] at hh; cases hh.1]
      exact h.pos
theorem sw_same {s s2 : St} {m : Mt} (h : Sw s m) (h1 : s2.sectors = 8) (h2 : s2.size = 64) (h3 : s2.dead = false) (h4 : Byt s2) (h5 : ∀ n, s2.fresh n = none) (h6 : s2.safe = s.safe) : Sw s2 m :=
  ⟨h1, h2, h3, h4, h5, by rw [h6]; exact h.secs, h.pos, by rw [h6]; exact h.was, by rw [h6]; exact h.old, by rw [h6]; exact h.last⟩
theorem sw_best {s : St} {m : Mt} (h : Sw s m) : s.best 2 = m ∧ s.errB 2 = 0 := by
  have hc := cnt_8 h.sectors h.size
  have hn : ∀ n, s.now n = s.safe n := fun n => by unfold St.now; rw [h.still]; rfl
  have hb : s.best 2 = m := by
    unfold St.best
    rw [if_neg (by simp [hc, h.alive]), hn, hn]
    have hw := h.was
    have ho := h.old
    unfold pickM
    unfold sct at hw ho
    by_cases e : m.q % 2 = 0
    · rw [e] at hw
      rw [show (m.q + 1) % 2 = 1 by omega] at ho
      simp at hw ho
      rw [hw, if_neg (by omega)]
    · rw [show m.q % 2 = 1 by omega] at hw
      rw [show (m.q + 1) % 2 = 0 by omega] at ho
      simp at hw ho
      rw [hw, if_pos ho]
  refine ⟨hb, ?_⟩
  unfold St.errB
  rw [if_neg hc, h.alive, hb, if_neg (by simp), if_neg (by have := h.pos; omega)]
section
variable {s : St} {m : Mt} (h : Sw s m) (n : Int)
include h
theorem arm_is : s.arm n = { s with left := max n (-1) } := by unfold St.arm; rw [h.alive]; rfl
theorem sw_arm : Sw (s.arm n) m := by
  rw [arm_is h n]
  exact sw_same h h.sectors h.size h.alive h.byt h.still rfl
variable (hm : m.q ≤ 100) (r k d : Int) (keep : List Int) (ts : List (Int × Int))
omit h in
theorem sw_arg (hk : ¬ mok (m.q + 1) r k d) : (s.arm n).errM 2 (m.q + 1) r k d = 2 ∧ (s.arm n).writeM 2 (m.q + 1) r k d = s.arm n := by
  unfold St.errM St.writeM
  rw [if_pos (.inr hk), if_pos (.inr hk)]
  exact ⟨rfl, rfl⟩
theorem sw_off (hk : mok (m.q + 1) r k d) (hl : (s.arm n).live = false) : (s.arm n).errM 2 (m.q + 1) r k d = 20 ∧ Sw (((s.arm n).writeM 2 (m.q + 1) r k d).crash keep ts) m := by
  have ha := sw_arm h n
  obtain ⟨e1, e2⟩ := writeM_dead (per := 2) hl (cnt_8 ha.sectors ha.size) hk (by rw [ha.size]; omega)
  refine ⟨e1, ?_⟩
  have hb := byt_writeM ha.byt 2 (m.q + 1) r k d
  rw [e2] at hb ⊢
  have ho := op_same (s.arm n)
  refine sw_same ha ?_ ?_ rfl (byt_crash hb _ _) (fun _ => rfl) ?_
  · exact ho.1.trans ha.sectors
  · exact ho.2.1.trans ha.size
  · funext j
    show (s.arm n).op.settled _ j = _
    unfold St.settled
    rw [ho.2.2.2.1, ha.still, ho.2.2.1]
include hm
theorem sw_on (hk : mok (m.q + 1) r k d) (hl : (s.arm n).live = true) : (s.arm n).errM 2 (m.q + 1) r k d = 0 ∧
    (((s.arm n).writeM 2 (m.q + 1) r k d).live = true → Sw ((((s.arm n).writeM 2 (m.q + 1) r k d).sync).crash keep ts) ⟨m.q + 1, r, k, d⟩) ∧
    (((s.arm n).writeM 2 (m.q + 1) r k d).live = false → Sw ((((s.arm n).writeM 2 (m.q + 1) r k d).sync).crash keep ts) m ∨ Sw ((((s.arm n).writeM 2 (m.q + 1) r k d).sync).crash keep ts) ⟨m.q + 1, r, k, d⟩) := by
  have ha := sw_arm h n
  obtain ⟨e1, e2⟩ := writeM_live (per := 2) hl (cnt_8 ha.sectors ha.size) hk (by rw [ha.size]; omega)
  refine ⟨e1, ?_⟩
  have hb := byt_writeM ha.byt 2 (m.q + 1) r k d
  have hT : (((m.q + 1) % 2 : Nat) : Int) * 2 = sct (m.q + 1) := rfl
  rw [hT, ha.size] at e2
  rw [e2] at hb ⊢
  have ho := op_same (s.arm n)
  have f1 : ∀ (X : St) j, X.safe = s.safe → X.fresh = upd (s.arm n).op.fresh (sct (m.q + 1)) (some (padded 64 (metaB (m.q + 1) r k d))) → ∀ Lf : Int → Nat, X.settled Lf j = if j = sct (m.q + 1) then over ((padded 64 (metaB (m.q + 1) r k d)).take (Lf j)) (s.safe j) else s.safe j := by
    intro X j hX1 hX2 Lf
    unfold St.settled
    rw [hX2, hX1]
    unfold upd
    by_cases ej : j = sct (m.q + 1)
    · rw [if_pos ej, if_pos ej]
    · rw [if_neg ej, if_neg ej, ho.2.2.2.1, ha.still]
  have hsafe : (s.arm n).op.safe = s.safe := by rw [ho.2.2.1, arm_is h n]
  generalize hW : (s.arm n).op.wrote (sct (m.q + 1)) (padded 64 (metaB (m.q + 1) r k d)) = X at hb ⊢
  have x1 : X.safe = s.safe := by rw [← hW]; exact hsafe
  have x2 : X.fresh = upd (s.arm n).op.fresh (sct (m.q + 1)) (some (padded 64 (metaB (m.q + 1) r k d))) := by rw [← hW]; rfl
  have x3 : X.sectors = 8 := by rw [← hW]; exact ho.1.trans ha.sectors
  have x4 : X.size = 64 := by rw [← hW]; exact ho.2.1.trans ha.size
  have hoX := op_same X
  have hby : Byt (X.sync.crash keep ts) := byt_crash (byt_sync hb) _ _
  constructor
  · intro hlX
    have hs : X.sync = X.op.settle (fun _ => X.size) := by unfold St.sync; rw [if_pos hlX]
    rw [hs] at hby ⊢
    have hset : ∀ j, (X.op.settle (fun _ => X.size)).safe j = if j = sct (m.q + 1) then over ((padded 64 (metaB (m.q + 1) r k d)).take 64) (s.safe j) else s.safe j := fun j => by
      have t := f1 X.op j (hoX.2.2.1.trans x1) (hoX.2.2.2.1.trans x2) (fun _ => X.size)
      have t2 : (X.op.settle (fun _ => X.size)).safe j = X.op.settled (fun _ => X.size) j := rfl
      rw [t2, t, x4]
    have hcr : ∀ j, ((X.op.settle (fun _ => X.size)).crash keep ts).safe j = (X.op.settle (fun _ => X.size)).safe j := fun j => rfl
    refine (sw_torn h hm r k d hk 64 ?_ ?_ rfl hby (fun _ => rfl) ?_ ?_).1 (by omega)
    · exact hoX.1.trans x3
    · exact hoX.2.1.trans x4
    · rw [hcr, hset, if_pos rfl]
    · rw [hcr, hset, if_neg (fun e => sct_ne m.q e.symm)]
  · intro hlX
    have hs : X.sync = X.op := by unfold St.sync; rw [if_neg (by simp [hlX])]
    rw [hs] at hby ⊢
    have hcr : ∀ j, (X.op.crash keep ts).safe j = if j = sct (m.q + 1) then over ((padded 64 (metaB (m.q + 1) r k d)).take (lastN X.op.size keep ts j)) (s.safe j) else s.safe j := fun j =>
      f1 X.op j (hoX.2.2.1.trans x1) (hoX.2.2.2.1.trans x2) _
    have hh := sw_torn (s2 := X.op.crash keep ts) h hm r k d hk (lastN X.op.size keep ts (sct (m.q + 1))) (hoX.1.trans x3) (hoX.2.1.trans x4) rfl hby (fun _ => rfl) (by rw [hcr, if_pos rfl]) (by rw [hcr, if_neg (fun e => sct_ne m.q e.symm)])
    by_cases hL : 36 ≤ lastN X.op.size keep ts (sct (m.q + 1))
    · exact .inr (hh.1 hL)
    · exact .inl (hh.2 (by omega))
end
/-- The first meta, synced. -/
def sw0 : St := (lvA.writeM 2 1 0 0 0).sync
theorem mok10 : mok 1 0 0 0 := by decide
theorem sw0_is : lvA.errM 2 1 0 0 0 = 0 ∧ (lvA.writeM 2 1 0 0 0).errOp = 0 ∧ (lvA.writeM 2 1 0 0 0).ops ≤ 1 ∧ sw0.ops ≤ 2 ∧ Sw sw0 ⟨1, 0, 0, 0⟩ := by
  obtain ⟨e1, e2⟩ := writeM_live (s := lvA) (per := 2) (q := 1) (r := 0) (k := 0) (d := 0) rfl lvA_cnt mok10 (by decide)
  have e2' : lvA.writeM 2 1 0 0 0 = { lvA with fresh := upd (fun _ => none) 2 (some (padded 64 (metaB 1 0 0 0))), ops := 1 } := e2
  have hby : Byt sw0 := byt_sync (byt_writeM (byt_new 8 64) 2 1 0 0 0)
  have hl : (lvA.writeM 2 1 0 0 0).live = true := by rw [e2']; rfl
  refine ⟨e1, by unfold St.errOp; rw [hl]; rfl, by rw [e2']; exact Nat.le_refl _, ?_, ?_⟩
  · unfold sw0 St.sync
    rw [if_pos hl]
    show (lvA.writeM 2 1 0 0 0).op.ops ≤ 2
    have := (op_same (lvA.writeM 2 1 0 0 0)).2.2.2.2.2
    have h1 : (lvA.writeM 2 1 0 0 0).ops = 1 := by rw [e2']
    omega
  · have hs : sw0 = (lvA.writeM 2 1 0 0 0).op.settle (fun _ => 64) := by
      unfold sw0 St.sync
      rw [if_pos hl, e2']
      rfl
    have hx := padm_sec 1 0 0 0 (by decide)
    have hsafe : ∀ j, sw0.safe j = if j = 2 then padded 64 (metaB 1 0 0 0) else zeros 64 := fun j => by
      rw [hs, e2']
      show (match upd (fun _ => none) 2 (some (padded 64 (metaB 1 0 0 0))) j with | some x => over (x.take 64) (zeros 64) | none => zeros 64) = _
      unfold upd
      by_cases ej : j = 2
      · rw [if_pos ej, if_pos ej]
        show over ((padded 64 (metaB 1 0 0 0)).take 64) (zeros 64) = _
        rw [List.take_of_length_le (by rw [hx.1]; omega)]
        unfold over
        rw [List.drop_eq_nil_of_le (by rw [hx.1]; simp [zeros]), List.append_nil]
      · rw [if_neg ej, if_neg ej]
    have hz : Sec (zeros 64) := ⟨by simp [zeros], fun i _ => zeros_get 64 i, fun i _ => zeros_get 64 i⟩
    refine ⟨?_, ?_, ?_, hby, ?_, fun q => ?_, Nat.le_refl _, ?_, ?_, ?_⟩
    · rw [hs, e2']; rfl
    · rw [hs, e2']; rfl
    · rw [hs, e2']; rfl
    · intro n; rw [hs]; rfl
    · rw [hsafe]; split
      · exact hx
      · exact hz
    · show stM (sw0.safe 2) 1 = _
      rw [hsafe, if_pos rfl, stM_meta _ _ _ _ _ _ (by decide) mok10]; rfl
    · show (stM (sw0.safe 0) 0).q < 1
      rw [hsafe, if_neg (by decide), stM_zeros]
      decide
    · show (sw0.safe 0).getD 35 0 ≠ _
      rw [hsafe, if_neg (by decide)]
      decide
end Go.Proofs.YtcgjolonapndgabDoor
