/- Readings in weak words: what comes of bytes that were laid; readGrants, readFolder. -/
import Derived.Test.YtfbeilninpapaaaRt
import Derived.Test.YtfbeilninpapaaaRq
namespace Go.Proofs.Ytfbeilninpapaaa
set_option linter.unusedVariables false
open Go.RowKit
def TxtC (bs : List Int) (pl : Nat) (err : Int) (s : ByteArray) (pl' : Nat) (err' : Int) : Prop := ∀ s0 rest, err = 0 → bs.drop pl = encT s0 ++ rest → s0.size ≤ 24 → s = s0 ∧ err' = 0 ∧ bs.drop pl' = rest
def NumC (bs : List Int) (pl : Nat) (err : Int) (n : Nat) (pl' : Nat) (err' : Int) : Prop := ∀ n0 rest, err = 0 → bs.drop pl = enc n0 ++ rest → n0 < 2 ^ 64 → n = n0 ∧ err' = 0 ∧ bs.drop pl' = rest
def IntC (bs : List Int) (pl : Nat) (err : Int) (z : Int) (pl' : Nat) (err' : Int) : Prop := ∀ z0 rest, err = 0 → bs.drop pl = encS z0 ++ rest → (-9223372036854775808 ≤ z0 ∧ z0 ≤ 9223372036854775807) → z = z0 ∧ err' = 0 ∧ bs.drop pl' = rest
theorem drop_app {bs a rest : List Int} {pl : Nat} (h : bs.drop pl = a ++ rest) : bs.drop (pl + a.length) = rest := by
  rw [← List.drop_drop, h, List.drop_left]
theorem txtC_of {bs : List Int} {pl : Nat} {err : Int} {R : List Int × Nat × Int} (h : ∀ s0 : ByteArray, ∀ rest, bs.drop pl = encT s0 ++ rest → s0.size ≤ 24 → R = (numsS s0, (encT s0).length, 0)) : TxtC bs pl err (strOfNums (nextV [] err R)) (nextP pl err R) (nextE err R) := by
  rintro s0 rest rfl h2 h3
  rw [h s0 rest h2 h3]
  exact ⟨by simp [nextV, strOf_numsS], by simp [nextE], by simp only [nextP, if_true]; exact drop_app h2⟩
theorem numC_of {bs : List Int} {pl : Nat} {err : Int} {R : Nat × Nat × Int} (h : ∀ n0 rest, bs.drop pl = enc n0 ++ rest → n0 < 2 ^ 64 → R = (n0, (enc n0).length, 0)) : NumC bs pl err (nextV 0 err R) (nextP pl err R) (nextE err R) := by
  rintro s0 rest rfl h2 h3
  rw [h s0 rest h2 h3]
  exact ⟨by simp [nextV], by simp [nextE], by simp only [nextP, if_true]; exact drop_app h2⟩
theorem intC_of {bs : List Int} {pl : Nat} {err : Int} {R : Int × Nat × Int} (h : ∀ z0 rest, bs.drop pl = encS z0 ++ rest → (-9223372036854775808 ≤ z0 ∧ z0 ≤ 9223372036854775807) → R = (z0, (encS z0).length, 0)) : IntC bs pl err (nextV 0 err R) (nextP pl err R) (nextE err R) := by
  rintro s0 rest rfl h2 h3
  rw [h s0 rest h2 h3]
  exact ⟨by simp [nextV], by simp [nextE], by simp only [nextP, if_true]; exact drop_app h2⟩
theorem nextV_len {err : Int} {R : List Int × Nat × Int} {k : Nat} (h : R.1.length ≤ k) : (strOfNums (nextV [] err R)).size ≤ k := by
  rw [strOf_size]
  unfold nextV
  split
  · split
    · exact h
    · simp
  · simp
theorem rdT_size (most : Nat) (bs : List Int) : (rdT most bs).1.length ≤ most := by
  unfold rdT
  split
  · split
    · simp
    · split
      · simp
      · simp only [List.length_take]; omega
  · simp
theorem nextV_in {err : Int} {R : Int × Nat × Int} (h : -9223372036854775808 ≤ R.1 ∧ R.1 ≤ 9223372036854775807) : -9223372036854775808 ≤ nextV 0 err R ∧ nextV 0 err R ≤ 9223372036854775807 := by
  unfold nextV
  split
  · split
    · exact h
    · decide
  · decide
theorem rdS_in (bs : List Int) : -9223372036854775808 ≤ (rdS bs).1 ∧ (rdS bs).1 ≤ 9223372036854775807 := by
  cases bs with
  | nil => simp [rdS]
  | cons c r =>
    rw [rdS]
    split
    · split
      · exact wS_in _ _
      · simp
    · simp
/-! ### The strip -/
section
variable (lo g : Nat) (bs : List Int) (pl : Nat) (err : Int) (w : World) (hs : IsStrip w lo g bs pl err) (hby : IsBytes bs) (hlen : bs.length ≤ 1000000000)
include hs hby hlen
theorem sText_w : Calls Try.prog 50 #[.pointer (some ⟨g, 0, none⟩), .int .i64 24] w fun e w' => ∃ s pl' err', e = .returned (.string s) ∧ s.size ≤ 24 ∧ IsStrip w' lo g bs pl' err' ∧ w.grownBy w' (some g) ∧ TxtC bs pl err s pl' err' := by
  refine (stripText_any lo g bs pl err 24 w (by decide) (by decide) hs hby hlen).mono ?_
  rintro e w' ⟨rfl, h1, h2⟩
  exact ⟨_, _, _, rfl, nextV_len (rdT_size 24 _), h1, h2, txtC_of fun s0 rest h3 h4 => by rw [h3]; exact rdT_encT 24 s0 h4 (by omega) rest⟩
theorem sNum_w : Calls Try.prog 62 #[.pointer (some ⟨g, 0, none⟩)] w fun e w' => ∃ n pl' err', e = .returned (.int .u64 (n : Nat)) ∧ n < 2 ^ 64 ∧ IsStrip w' lo g bs pl' err' ∧ w.grownBy w' (some g) ∧ NumC bs pl err n pl' err' := by
  refine (stripNumber_any lo g bs pl err w hs hby hlen).mono ?_
  rintro e w' ⟨rfl, h1, h2⟩
  refine ⟨_, _, _, rfl, ?_, h1, h2, numC_of fun s0 rest h3 h4 => by rw [h3]; exact rdN_enc s0 h4 rest⟩
  have := (rdN_bounds (bs.drop pl) true 0 0 (by decide)).1
  unfold nextV
  split
  · split
    · exact this
    · decide
  · decide
theorem sInt_w : Calls Try.prog 52 #[.pointer (some ⟨g, 0, none⟩)] w fun e w' => ∃ z pl' err', e = .returned (.int .i64 z) ∧ (-9223372036854775808 ≤ z ∧ z ≤ 9223372036854775807) ∧ IsStrip w' lo g bs pl' err' ∧ w.grownBy w' (some g) ∧ IntC bs pl err z pl' err' := by
  refine (stripSigned_any lo g bs pl err w hs hby hlen).mono ?_
  rintro e w' ⟨rfl, h1, h2⟩
  exact ⟨_, _, _, rfl, nextV_in (rdS_in _), h1, h2, intC_of fun s0 rest h3 h4 => by rw [h3]; exact rdS_encS s0 h4.1 h4.2 rest⟩
end
/-! ### The document's Reader -/
section
variable (lo g : Nat) (bs : List Int) (pl : Nat) (err : Int) (w : World) (hs : IsRd w lo g bs pl err) (hby : IsBytes bs) (hlen : bs.length ≤ 1000000000)
include hs hby hlen
theorem rText_w : Calls Try.prog 39 #[.pointer (some ⟨g, 0, none⟩), .int .i64 24] w fun e w' => ∃ s pl' err', e = .returned (.string s) ∧ s.size ≤ 24 ∧ IsRd w' lo g bs pl' err' ∧ w.grownBy w' (some g) ∧ TxtC bs pl err s pl' err' ∧ (err' = 0 → err = 0 ∧ pl ≤ pl') := by
  refine (rtext_any lo g bs pl 24 err w hs hby hlen (by decide)).mono ?_
  rintro e w' ⟨rfl, h1, h2⟩
  refine ⟨_, _, _, rfl, nextV_len (rrT_size 24 _), h1, h2, txtC_of fun s0 rest h3 h4 => by rw [h3]; exact rrT_encT 24 s0 h4 (by omega) rest, fun h => ?_⟩
  by_cases he : err = 0
  · refine ⟨he, ?_⟩
    subst he
    unfold nextP
    rw [if_pos rfl]
    split <;> omega
  · simp [nextE, he] at h
theorem rNum_w : Calls Try.prog 40 #[.pointer (some ⟨g, 0, none⟩)] w fun e w' => ∃ n pl' err', e = .returned (.int .u64 (n : Nat)) ∧ n < 2 ^ 64 ∧ IsRd w' lo g bs pl' err' ∧ w.grownBy w' (some g) ∧ NumC bs pl err n pl' err' := by
  refine (ruint_any lo g bs pl err w hs hby hlen).mono ?_
  rintro e w' ⟨rfl, h1, h2⟩
  refine ⟨_, _, _, rfl, ?_, h1, h2, numC_of fun s0 rest h3 h4 => by rw [h3]; exact rrN_of _ _ _ _ _ _ (by decide) (rdN_enc s0 h4 rest)⟩
  have := (rrN_bounds (bs.drop pl) true 0 0 (by decide)).1
  unfold nextV
  split
  · split
    · exact this
    · decide
  · decide
theorem rInt_w : Calls Try.prog 41 #[.pointer (some ⟨g, 0, none⟩)] w fun e w' => ∃ z pl' err', e = .returned (.int .i64 z) ∧ (-9223372036854775808 ≤ z ∧ z ≤ 9223372036854775807) ∧ IsRd w' lo g bs pl' err' ∧ w.grownBy w' (some g) ∧ IntC bs pl err z pl' err' ∧ (err' = 0 → err = 0 ∧ pl + 1 ≤ pl') := by
  refine (rint_any lo g bs pl err w hs hby hlen).mono ?_
  rintro e w' ⟨rfl, h1, h2⟩
  refine ⟨_, _, _, rfl, nextV_in (rrS_in _), h1, h2, intC_of fun s0 rest h3 h4 => by rw [h3]; exact rrS_encS s0 h4.1 h4.2 rest, fun h => ?_⟩
  by_cases he : err = 0
  · refine ⟨he, ?_⟩
    subst he
    have h5 : (rrS (bs.drop pl)).2.2 = 0 := by simpa [nextE] using h
    have := rrS_more _ h5
    simp only [nextP, if_true, h5]
    omega
  · simp [nextE, he] at h
end
theorem gtr {w w1 w2 : World} {g : Nat} {ob : Option Nat} (h1 : w.grownBy w1 (some g)) (h2 : w1.grownBy w2 ob) (h : ∀ k, ob = some k → w.heap.size ≤ k) : w.grownBy w2 (some g) :=
  ⟨h2.os.trans h1.os, h2.tape.trans h1.tape, h2.output.trans h1.output, Nat.le_trans h1.size h2.size, fun k hk hne => (h2.block k (Nat.lt_of_lt_of_le hk h1.size) (fun e => by have := h k e.symm; omega)).trans (h1.block k hk hne)⟩
theorem gtr' {w w1 w2 : World} {g : Nat} (h1 : w.grownBy w1 (some g)) (h2 : w1.grownBy w2 (some g)) : w.grownBy w2 (some g) := grown_trans h1 h2
theorem g_alloc (w : World) (g : Nat) (o : Obj) : w.grownBy (w.alloc o) (some g) := grownBy_below ((Below.refl _ _).alloc (Nat.le_refl _) _) _
theorem OwnS.kept2 {α : Type} {E : Enc α} {T : RowTy E} {w w' : World} {base g : Nat} {v : Value} {l : List α} (h : OwnS T w base v l) (hg : w.grownBy w' (some g)) (hb : g < base) : OwnS T w' base v l :=
  World.ownsRow.kept h hg (.inr fun e => by have := (OwnS.lt h g e).1; omega)
theorem strip_ob {w W : World} {lo g pl : Nat} {bs : List Int} {err : Int} {ob : Option Nat} (hs : IsStrip w lo g bs pl err) (hW : w.grownBy W ob) (hr : ∀ k, ob = some k → g < k) : IsStrip W lo g bs pl err := by
  cases ob with
  | none => exact strip_other (row := w.heap.size) hs ⟨hW.os, hW.tape, hW.output, hW.size, fun k hk _ => hW.block k hk (by simp)⟩ (.inr hs.lt)
  | some k => exact strip_other hs hW (.inr (hr k rfl))
theorem rd_ob {w W : World} {lo g pl : Nat} {bs : List Int} {err : Int} {ob : Option Nat} (hs : IsRd w lo g bs pl err) (hW : w.grownBy W ob) (hr : ∀ k, ob = some k → g < k) : IsRd W lo g bs pl err := by
  cases ob with
  | none => exact rd_other (row := w.heap.size) hs ⟨hW.os, hW.tape, hW.output, hW.size, fun k hk _ => hW.block k hk (by simp)⟩ (.inr hs.lt)
  | some k => exact rd_other hs hW (.inr (hr k rfl))
/-- Grants that were read, from place k of l on. -/
def GrsC (bs : List Int) (P : List Gr → List Int → Prop) (k : Nat) (F : List Gr) (pl : Nat) (err : Int) : Prop := ∀ l rest, P l rest → F = l.take k ∧ err = 0 ∧ bs.drop pl = cat grB (l.drop k) ++ rest
theorem grsC_step {bs : List Int} {P : List Gr → List Int → Prop} {k : Nat} {F : List Gr} {p0 p1 p2 p3 : Nat} {r0 r1 r2 r3 : Int} {a c : Int} {s : ByteArray} (hP : ∀ l rest, P l rest → GrS l ∧ k < l.length) (h : GrsC bs P k F p0 r0) (h1 : IntC bs p0 r0 a p1 r1) (h2 : TxtC bs p1 r1 s p2 r2) (h3 : IntC bs p2 r2 c p3 r3) : GrsC bs P (k + 1) (F ++ [⟨a, s, c⟩]) p3 r3 := by
  intro l rest hp
  obtain ⟨⟨_, hg⟩, hk⟩ := hP l rest hp
  obtain ⟨rfl, e0, d0⟩ := h l rest hp
  have hgk := hg _ (getD_mem l gr0 k hk)
  have hd : l.drop k = l.getD k gr0 :: l.drop (k + 1) := by rw [List.drop_eq_getElem_cons hk]; simp [hk]
  rw [hd] at d0
  have d0' : bs.drop p0 = encS (l.getD k gr0).kind ++ (encT (l.getD k gr0).name ++ (encS (l.getD k gr0).level ++ (cat grB (l.drop (k + 1)) ++ rest))) := by
    rw [d0]; simp [cat, grB]
  obtain ⟨ha, e1, d1⟩ := h1 _ _ e0 d0' hgk.1.1
  obtain ⟨hs, e2, d2⟩ := h2 _ _ e1 d1 hgk.2
  obtain ⟨hc, e3, d3⟩ := h3 _ _ e2 d2 hgk.1.2
  refine ⟨?_, e3, d3⟩
  rw [take_getD l gr0 k hk, ha, hs, hc]
end Go.Proofs.Ytfbeilninpapaaa
