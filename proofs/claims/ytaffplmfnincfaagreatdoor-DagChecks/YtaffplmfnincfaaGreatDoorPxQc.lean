/- Px; Py; Pz; Qa; Qb; Qc. -/
import Derived.Test.YtaffplmfnincfaaGreatDoorPmPw
/- The parser: bracketed. -/
namespace Go.Proofs.YtaffplmfnincfaaGreatDoor
set_option linter.unusedVariables false
open Go.RowKit
theorem Bx.fp {w w' : World} {x p : Nat} {T : TypeId} {a b c d e : Value} (h : Bx w x T a b c d e) (hf : Fp p w w') (hne : x ≠ p) : Bx w' x T a b c d e := (hf.block x h.lt hne).trans h
theorem is40 (t : ByteArray) : (t.toList == [40]) = decide (t = ⟨#[40]⟩) := by rw [← beq_str]; congr 1; decide +kernel
theorem is41 (t : ByteArray) : (t.toList == [41]) = decide (t = ⟨#[41]⟩) := by rw [← beq_str]; congr 1; decide +kernel
theorem set_block {w : World} {x i k : Nat} {u : Value} (h : k ≠ x) : (w.setCell ⟨x, i, none⟩ u).heap[k]? = w.heap[k]? := by
  unfold World.setCell
  rw [Array.getElem?_modify, if_neg (fun e => h e.symm)]
theorem set_size {w : World} {x i : Nat} {u : Value} : (w.setCell ⟨x, i, none⟩ u).heap.size = w.heap.size := by simp [World.setCell]
theorem set5_block {w : World} {x k : Nat} {a b c d e : Value} (h : k ≠ x) : (set5 w x a b c d e).heap[k]? = w.heap[k]? := by
  unfold set5
  rw [set_block h, set_block h, set_block h, set_block h, set_block h]
theorem set5_size {w : World} {x : Nat} {a b c d e : Value} : (set5 w x a b c d e).heap.size = w.heap.size := by
  unfold set5
  rw [set_size, set_size, set_size, set_size, set_size]
theorem Fp.hi1 {p : Nat} {a w : World} {x : Nat} (h : Fp p a w) (hx : a.heap.size ≤ x) (i : Nat) (u : Value) : Fp p a (w.setCell ⟨x, i, none⟩ u) :=
  ⟨h.os, h.tape, h.output, by rw [set_size]; exact h.size, fun k hk hp => by rw [set_block (by omega)]; exact h.block k hk hp⟩
theorem Fp.hi5 {p : Nat} {a w : World} {x : Nat} (h : Fp p a w) (hx : a.heap.size ≤ x) (b c d e f : Value) : Fp p a (set5 w x b c d e f) := by
  unfold set5
  exact ((((h.hi1 hx _ _).hi1 hx _ _).hi1 hx _ _).hi1 hx _ _).hi1 hx _ _
theorem PsT.hi5 {w : World} {p i x : Nat} {s : ByteArray} {t : Tk} (h : PsT w p s i t) (hne : p ≠ x) (a b c d e : Value) : PsT (set5 w x a b c d e) p s i t := (set5_block hne).trans h
theorem ExV.hi5 {w : World} {A : Nat → Prop} {x : Nat} {t : Ex} {u : Value} (h : ExV w A t u) (hA : ∀ b, A b → b ≠ x) (a b c d e : Value) : ExV (set5 w x a b c d e) A t u := by
  obtain ⟨K, h1, h2⟩ := h
  exact ⟨K, h1, kidsV.keep (fun b hb _ => set5_block (hA b hb)) (Nat.le_of_eq set5_size.symm) (fun _ h _ => h) _ _ h2⟩
/-- The zero Expr. -/
abbrev zE : Obj := .cells #[.int .i64 0, .string ⟨#[]⟩, .int .i64 0, .int .i64 0, .slice none 0 0] 62
set_option maxRecDepth 100000 in
set_option maxHeartbeats 8000000 in
/-- parser.bracketed. -/
theorem br_any (w0 : World) (s : ByteArray) (p n i : Nat) (hs : s.size ≤ 1000000) (hi : i ≤ s.size) (hn : n ≤ 1000) (hop : (tokAt parC s i).text = ⟨#[40]⟩ → JobC 47 #[.int .i64 0, .int .i64 ((n : Int) + 1)] s p (.op 0 (n + 1) (nxt parC s i)) w0) : JobC 115 #[.int .i64 (n : Int)] s p (.br n i) w0 := by
  intro W he hp
  change PsAt W p s i at hp
  have hb := bW0 W zE
  have hp0 := hp.grow hb
  have he0 := he.grow hb
  have hz0 := bxNew W 62 (.int .i64 0) (.string ⟨#[]⟩) (.int .i64 0) (.int .i64 0) (.slice none 0 0)
  have hpl := hp.lt
  have hsz := tokAt_size s i hi
  have h40 := is40 (tokAt parC s i).text
  have hnm := nxt_more s i hi
  have hno : Hid ((tokAt parC s i).text ≠ ⟨#[40]⟩ → Rd parC s (.br n i) (.error 110) i) := fun h => Rd.brNo h
  have herr : Hid ((tokAt parC s i).text = ⟨#[40]⟩ → ∀ e j, Rd parC s (.op 0 (n + 1) (nxt parC s i)) (.error e) j → Rd parC s (.br n i) (.error e) j) := fun h e j g => Rd.brErr h g
  have hopn : Hid ((tokAt parC s i).text = ⟨#[40]⟩ → ∀ x j, Rd parC s (.op 0 (n + 1) (nxt parC s i)) (.ok x) j → (tokAt parC s j).text ≠ ⟨#[41]⟩ → Rd parC s (.br n i) (.error 110) j) := fun h x j g h2 => Rd.brOpen h g h2
  have hok : Hid ((tokAt parC s i).text = ⟨#[40]⟩ → ∀ x j, Rd parC s (.op 0 (n + 1) (nxt parC s i)) (.ok x) j → (tokAt parC s j).text = ⟨#[41]⟩ → Rd parC s (.br n i) (.ok x) (nxt parC s j)) := fun h x j g h2 => Rd.brOk h g h2
  have hnx := next_any w0 _ p s i (tokAt parC s i) he0 hp0 hsz hs
  have hnd : Hid (skipB s (i + (tokAt parC s i).size) = nxt parC s i) := rfl
  rw [hnd.out] at hnx
  obtain ⟨c0, c1, c2, c3, c4, c5, c6⟩ := hp0.cells
  have hp9 : Hid (PsAt (W.alloc zE) p s i) := hp0
  generalize tokAt parC s i = t at *
  obtain ⟨tk, ts, tt, tv⟩ := t
  simp only at *
  by_cases ht : tt = ⟨#[40]⟩
  · have hop1 := hop ht
    have hnm1 := hnm (.inr (by rw [ht]; decide))
    rw [decide_eq_true ht] at h40
    replace herr := herr.out ht
    replace hopn := hopn.out ht
    replace hok := hok.out ht
    clear hop hnm hno ht hnd
    generalize nxt parC s i = N at *
    replace herr : Hid _ := herr
    replace hopn : Hid _ := hopn
    replace hok : Hid _ := hok
    replace hop1 : Hid (JobC 47 #[.int .i64 0, .int .i64 ((n : Int) + 1)] s p (.op 0 (n + 1) N) w0) := hop1
    have hnb : (n : Int) + 1 ≤ 1001 := by omega
    have hAfter : Hid (∀ (w1 w2 : World) (k : Int) (nn : ByteArray) (x y : Int) (a : Option Addr) (m c : Nat) (er : Int) (r : Except Int Ex) (j : Nat), PsAt w1 p s N → Fp p (W.alloc zE) w1 → Read s p (.op 0 (n + 1) N) w1 w2 (.agg #[.int .i64 k, .string nn, .int .i64 x, .int .i64 y, .slice a m c]) er r j →
        ∃ t2 : Tk, Hid (t2 = tokAt parC s j) ∧ Bx (w2.alloc (.cells #[.int .i64 k, .string nn, .int .i64 x, .int .i64 y, .slice a m c] 62)) W.heap.size 62 (.int .i64 0) (.string ⟨#[]⟩) (.int .i64 0) (.int .i64 0) (.slice none 0 0) ∧ PsT (w2.alloc (.cells #[.int .i64 k, .string nn, .int .i64 x, .int .i64 y, .slice a m c] 62)) p s j t2 ∧ Hid (Fp p W (w2.alloc (.cells #[.int .i64 k, .string nn, .int .i64 x, .int .i64 y, .slice a m c] 62))) ∧ Hid (W.heap.size < w1.heap.size ∧ j ≤ s.size ∧ N ≤ j) ∧
          (((er != 0) = true ∧ Hid (Rd parC s (.br n i) (.error er) j)) ∨ (er = 0 ∧ (t2.text.toList == [41]) = false ∧ Hid (Rd parC s (.br n i) (.error 110) j)) ∨
            (er = 0 ∧ (t2.text.toList == [41]) = true ∧ Hid (nxt parC s j ≤ s.size ∧ j ≤ nxt parC s j ∧ ∃ tr, Rd parC s (.br n i) (.ok tr) (nxt parC s j) ∧ ExV w2 (fun b => w1.heap.size ≤ b) tr (.agg #[.int .i64 k, .string nn, .int .i64 x, .int .i64 y, .slice a m c])) ∧
              Calls Tryz.prog 46 #[.pointer (some ⟨p, 0, none⟩)] (w2.alloc (.cells #[.int .i64 k, .string nn, .int .i64 x, .int .i64 y, .slice a m c] 62)) fun e w' => e = .returned (.tuple #[]) ∧ PsAt w' p s (nxt parC s j) ∧ Fp p (w2.alloc (.cells #[.int .i64 k, .string nn, .int .i64 x, .int .i64 y, .slice a m c] 62)) w'))) := fun w1 w2 k nn x y a m c er r j hp1 hf1 hr0 => by
      have hbx := bW0 w2 (.cells #[.int .i64 k, .string nn, .int .i64 x, .int .i64 y, .slice a m c] 62)
      have he1 := he0.fp hp9.out.lt hf1
      have he3 := (he1.fp hp1.lt hr0.fp).grow hbx
      have hps3 := PsT.grow hr0.ps hbx
      have hnl := nxt_le s j hr0.le
      refine ⟨tokAt parC s j, rfl, ((hz0.fp hf1 (by omega)).fp hr0.fp (by omega)).grow hbx, hps3, (((Fp.of (p := p) hb).trans hf1).trans hr0.fp).trans (Fp.of (p := p) hbx), ⟨?_, hr0.le, hr0.ge⟩, ?_⟩
      · have := hf1.size
        rw [World.size_alloc] at this
        omega
      · rw [is41]
        cases r with
        | error xe =>
          obtain ⟨rfl, hne⟩ := hr0.res
          exact .inl ⟨by simpa using hne, herr.out _ _ hr0.rd⟩
        | ok tr =>
          obtain ⟨rfl, hV⟩ := hr0.res
          by_cases h2 : (tokAt parC s j).text = ⟨#[41]⟩
          · exact .inr (.inr ⟨rfl, decide_eq_true h2, ⟨hnl.2, by omega, tr, hok.out _ _ hr0.rd h2, hV⟩, next_any w0 _ p s j (tokAt parC s j) he3 hps3 (tokAt_size s j hr0.le) hs⟩)
          · exact .inr (.inl ⟨rfl, decide_eq_false h2, hopn.out _ _ hr0.rd h2⟩)
    show Calls Tryz.prog 115 #[.pointer (some ⟨p, 0, none⟩), .int .i64 (n : Int)] W _
    go_enter Tryz.func115, Tryz.ntmps115
    go_wp2_with (first
      | (go_at_call 46; (with_reducible refine hnx.mono ?_); rintro e w1 ⟨rfl, hp1, hf1⟩; have hca : Calls Tryz.prog 47 #[.pointer (some ⟨p, 0, none⟩), .int .i64 0, .int .i64 ((n : Int) + 1)] w1 _ := hop1.out w1 (he0.fp hp9.out.lt hf1) hp1)
      | (go_at_call 47; refine hca.mono ?_; clear hca hnx; rintro e w2 ⟨k, nn, x, y, a, m, c, er, rfl, r, j, hr⟩; obtain ⟨t2, ht2, hz3, hp3, hf3, hw1, hcase⟩ := hAfter.out w1 w2 k nn x y a m c er r j hp1 hf1 hr.out; clear hAfter; obtain ⟨z0, z1, z2, z3, z4⟩ := hz3.cells; obtain ⟨y0, y1, y2, y3, y4⟩ := hz3.frozen; obtain ⟨d0, d1, d2, d3, d4, d5, d6⟩ := hp3.cells; have hx3 := bxNew w2 62 (.int .i64 k) (.string nn) (.int .i64 x) (.int .i64 y) (.slice a m c); rcases hcase with ⟨hne, hrd⟩ | ⟨rfl, h41, hrd⟩ | ⟨rfl, h41, hrd, hnx3⟩)
      | (go_at_call 46; (with_reducible refine hnx3.mono ?_); rintro e w4 ⟨rfl, hp4, hf4⟩; have hx4 := hx3.fp hf4 (by have := hpl; have := hw1.out.1; have := hr.out.fp.size; omega); have hz4 := hz3.fp hf4 (by omega); obtain ⟨q0, q1, q2, q3, q4⟩ := hx4.cells; obtain ⟨z0, z1, z2, z3, z4⟩ := hz4.cells; obtain ⟨y0, y1, y2, y3, y4⟩ := hz4.frozen))
    · have hpj := PsT.hi5 hp3 (x := W.heap.size) (by omega) (.int .i64 0) (.string ⟨#[]⟩) (.int .i64 0) (.int .i64 0) (.slice none 0 0)
      rw [ht2.out] at hpj
      refine ret27t Tryz.results115 rfl (hz3.set) rfl ?_
      exact ⟨_, _, _, _, _, _, _, _, rfl, .error er, j, ⟨hrd.out, hpj, hf3.out.hi5 (Nat.le_refl _) _ _ _ _ _, hw1.out.2.1, Nat.le_trans (Nat.le_of_lt hnm1.1) hw1.out.2.2, rfl, by simpa using hne⟩⟩
    · have hpj := PsT.hi5 hp3 (x := W.heap.size) (by omega) (.int .i64 0) (.string ⟨#[]⟩) (.int .i64 0) (.int .i64 0) (.slice none 0 0)
      rw [ht2.out] at hpj
      refine ret27t Tryz.results115 rfl (hz3.set) rfl ?_
      exact ⟨_, _, _, _, _, _, _, _, rfl, .error 110, j, ⟨hrd.out, hpj, hf3.out.hi5 (Nat.le_refl _) _ _ _ _ _, hw1.out.2.1, Nat.le_trans (Nat.le_of_lt hnm1.1) hw1.out.2.2, rfl, by decide⟩⟩
    · obtain ⟨hl1, hl2, tr, hrd1, hV⟩ := hrd.out
      have hpj := PsT.hi5 hp4 (x := W.heap.size) (by omega) (.int .i64 k) (.string nn) (.int .i64 x) (.int .i64 y) (.slice a m c)
      have hV4 := ((hV.grow (bW0 w2 (.cells #[.int .i64 k, .string nn, .int .i64 x, .int .i64 y, .slice a m c] 62))).fp hf4 (fun b hb => by have := hw1.out.1; omega)).hi5 (x := W.heap.size) (fun b hb => by have := hw1.out.1; omega) (.int .i64 k) (.string nn) (.int .i64 x) (.int .i64 y) (.slice a m c)
      refine ret27t Tryz.results115 rfl (hz4.set) rfl ?_
      refine ⟨_, _, _, _, _, _, _, _, rfl, .ok tr, nxt parC s j, ⟨hrd1, hpj, (hf3.out.trans hf4).hi5 (Nat.le_refl _) _ _ _ _ _, hl1, Nat.le_trans (Nat.le_of_lt hnm1.1) (Nat.le_trans hw1.out.2.2 hl2), rfl, hV4.more fun b hb => ?_⟩⟩
      have := hw1.out.1
      omega
  · rw [decide_eq_false ht] at h40
    have hrd := hno.out ht
    clear hop hnm hno herr hopn hok ht hnx hnd
    show Calls Tryz.prog 115 #[.pointer (some ⟨p, 0, none⟩), .int .i64 (n : Int)] W _
    go_enter Tryz.func115, Tryz.ntmps115
    go_wp2
    refine ret27t Tryz.results115 rfl (bxNew W 62 _ _ _ _ _) rfl ?_
    exact ⟨_, _, _, _, _, _, _, _, rfl, .error 110, i, ⟨hrd, hp9.out, Fp.of hb, hi, Nat.le_refl _, rfl, by decide⟩⟩
end Go.Proofs.YtaffplmfnincfaaGreatDoor
/- The parser: operand. -/
namespace Go.Proofs.YtaffplmfnincfaaGreatDoor
set_option linter.unusedVariables false
open Go.RowKit
/-- What every walk of operand has: a parser at i, the result's box, the token's box. -/
structure OdW (w0 W : World) (s : ByteArray) (p i : Nat) (t : Tk) (W1 : World) : Prop where
  ps : PsT W1 p s i t
  env : Env w0 W1 p
  fp : Fp p W W1
  res : Bx W1 W.heap.size 62 (.int .i64 0) (.string ⟨#[]⟩) (.int .i64 0) (.int .i64 0) (.slice none 0 0)
  tok : TkAt W1 (W.heap.size + 1) t
  size : W.heap.size + 2 ≤ W1.heap.size
theorem odw_new {w0 W : World} {s : ByteArray} {p i : Nat} {t : Tk} (he : Env w0 W p) (hp : PsT W p s i t) : OdW w0 W s p i t ((W.alloc zE).alloc (tkO t)) := by
  have hb := bW0 W zE
  have hb2 := bW0 (W.alloc zE) (tkO t)
  have h1 := bxNew W 62 (.int .i64 0) (.string ⟨#[]⟩) (.int .i64 0) (.int .i64 0) (.slice none 0 0)
  have h2 : TkAt ((W.alloc zE).alloc (tkO t)) (W.alloc zE).heap.size t := bxNew (W.alloc zE) 82 _ _ _ _ _
  rw [World.size_alloc] at h2
  exact ⟨(hp.grow hb).grow hb2, (he.grow hb).grow hb2, (Fp.of hb).trans (Fp.of hb2), h1.grow hb2, h2, by simp⟩
theorem OdW.grow {w0 W W1 W2 : World} {s : ByteArray} {p i : Nat} {t : Tk} (h : OdW w0 W s p i t W1) (hb : Below W1.heap.size W1 W2) : OdW w0 W s p i t W2 :=
  ⟨h.ps.grow hb, h.env.grow hb, h.fp.trans (Fp.of hb), h.res.grow hb, Bx.grow h.tok hb, Nat.le_trans h.size hb.size⟩
set_option maxRecDepth 100000 in
set_option maxHeartbeats 8000000 in
/-- parser.operand, where nothing begins, or too deep. -/
theorem od_no (w0 : World) (s : ByteArray) (p n i : Nat) (hi : i ≤ s.size) (hn : n ≤ 1000) (h : opens (tokAt parC s i) = false ∨ 32 < n) : JobC 66 #[.int .i64 (n : Int)] s p (.od n i) w0 := by
  intro W he hp
  change PsAt W p s i at hp
  have ho := odw_new he hp
  have hpl := hp.lt
  have hop := fun W => opens_any (tokAt parC s i) W
  have hp9 : Hid (∀ W1, PsT W1 p s i (tokAt parC s i) → PsAt W1 p s i) := fun _ h => h
  have hno : Hid (opens (tokAt parC s i) = false → Rd parC s (.od n i) (.error 110) i) := fun h => Rd.odNo h
  have hdp : Hid (opens (tokAt parC s i) = true → 32 < n → Rd parC s (.od n i) (.error 111) i) := fun h h2 => Rd.odDeep h h2
  obtain ⟨c0, c1, c2, c3, c4, c5, c6⟩ := (PsT.grow hp (bW0 W zE)).cells
  obtain ⟨t0, t1, t2, t3, t4⟩ := ho.tok.cells
  clear hp
  generalize opens (tokAt parC s i) = B at *
  generalize tokAt parC s i = t at *
  obtain ⟨tk, ts, tt, tv⟩ := t
  unfold tkV at hop
  unfold tkO at ho t0 t1 t2 t3 t4
  simp only at *
  show Calls Tryz.prog 66 #[.pointer (some ⟨p, 0, none⟩), .int .i64 (n : Int)] W _
  cases B with
  | false =>
    have hrd := hno.out rfl
    clear hno hdp h
    go_enter Tryz.func66, Tryz.ntmps66
    go_wp2_with (first
      | (go_at_call 114; refine (hop _).mono ?_; rintro e w1 ⟨rfl, hb1⟩; have ho1 := ho.grow hb1; obtain ⟨z0, z1, z2, z3, z4⟩ := ho1.res.cells; obtain ⟨y0, y1, y2, y3, y4⟩ := ho1.res.frozen))
    refine ret27t Tryz.results66 rfl (ho1.res.set) rfl ?_
    exact ⟨_, _, _, _, _, _, _, _, rfl, .error 110, i, ⟨hrd, hp9.out _ (PsT.hi5 ho1.ps (by omega) _ _ _ _ _), ho1.fp.hi5 (Nat.le_refl _) _ _ _ _ _, hi, Nat.le_refl _, rfl, by decide⟩⟩
  | true =>
    have h32 : 32 < n := h.resolve_left (by decide)
    have hrd := hdp.out rfl h32
    have h32i : (32 : Int) < (n : Int) := by omega
    clear hno hdp h h32
    go_enter Tryz.func66, Tryz.ntmps66
    go_wp2_with (first
      | (go_at_call 114; refine (hop _).mono ?_; rintro e w1 ⟨rfl, hb1⟩; have ho1 := ho.grow hb1; obtain ⟨z0, z1, z2, z3, z4⟩ := ho1.res.cells; obtain ⟨y0, y1, y2, y3, y4⟩ := ho1.res.frozen))
    refine ret27t Tryz.results66 rfl (ho1.res.set) rfl ?_
    exact ⟨_, _, _, _, _, _, _, _, rfl, .error 111, i, ⟨hrd, hp9.out _ (PsT.hi5 ho1.ps (by omega) _ _ _ _ _), ho1.fp.hi5 (Nat.le_refl _) _ _ _ _ _, hi, Nat.le_refl _, rfl, by decide⟩⟩
theorem ResV.up {W w1 w2 : World} {u : Value} {er : Int} {r : Except Int Ex} (h : ResV w1 w2 u er r) (hs : W.heap.size < w1.heap.size) (a b c d e : Value) : ResV W (set5 w2 W.heap.size a b c d e) u er r := by
  cases r with
  | error x => exact h
  | ok t => exact ⟨h.1, (h.2.hi5 (fun b hb => by omega) a b c d e).more fun b hb => by omega⟩
set_option maxRecDepth 100000 in
set_option maxHeartbeats 8000000 in
/-- parser.operand at a bracket. -/
theorem od_br (w0 : World) (s : ByteArray) (p n i : Nat) (hi : i ≤ s.size) (hn : n ≤ 32) (h : opens (tokAt parC s i) = true) (h4 : (tokAt parC s i).text = ⟨#[40]⟩) (hbr : JobC 115 #[.int .i64 (n : Int)] s p (.br n i) w0) : JobC 66 #[.int .i64 (n : Int)] s p (.od n i) w0 := by
  intro W he hp
  change PsAt W p s i at hp
  have ho := odw_new he hp
  have hpl := hp.lt
  have hop := fun W => opens_any (tokAt parC s i) W
  have h40 := is40 (tokAt parC s i).text
  rw [decide_eq_true h4] at h40
  rw [h] at hop
  have hp9 : Hid (∀ W1, PsT W1 p s i (tokAt parC s i) → PsAt W1 p s i) := fun _ h => h
  have hrd : Hid (∀ r j, Rd parC s (.br n i) r j → Rd parC s (.od n i) r j) := fun r j g => Rd.odBr h (by omega) h4 g
  obtain ⟨c0, c1, c2, c3, c4, c5, c6⟩ := (PsT.grow hp (bW0 W zE)).cells
  obtain ⟨t0, t1, t2, t3, t4⟩ := ho.tok.cells
  clear hp h h4
  generalize tokAt parC s i = t at *
  obtain ⟨tk, ts, tt, tv⟩ := t
  unfold tkV at hop
  unfold tkO at ho t0 t1 t2 t3 t4
  simp only at *
  have hni : ¬ (32 : Int) < (n : Int) := by omega
  replace hbr : Hid (JobC 115 #[.int .i64 (n : Int)] s p (.br n i) w0) := hbr
  show Calls Tryz.prog 66 #[.pointer (some ⟨p, 0, none⟩), .int .i64 (n : Int)] W _
  go_enter Tryz.func66, Tryz.ntmps66
  go_wp2_with (first
    | (go_at_call 114; refine (hop _).mono ?_; rintro e w1 ⟨rfl, hb1⟩; have ho1 := ho.grow hb1; obtain ⟨t0, t1, t2, t3, t4⟩ := ho1.tok.cells; simp only at t0 t1 t2 t3 t4; have hca : Calls Tryz.prog 115 #[.pointer (some ⟨p, 0, none⟩), .int .i64 (n : Int)] w1 _ := hbr.out w1 ho1.env (hp9.out _ ho1.ps))
    | (go_at_call 115; refine hca.mono ?_; clear hca; rintro e w2 ⟨k, nn, x, y, a, m, c, er, rfl, r, j, hr⟩; have hz2 := ho1.res.fp hr.out.fp (by omega); obtain ⟨z0, z1, z2, z3, z4⟩ := hz2.cells; obtain ⟨y0, y1, y2, y3, y4⟩ := hz2.frozen))
  refine ret27t Tryz.results66 rfl (hz2.set) rfl ?_
  exact ⟨_, _, _, _, _, _, _, _, rfl, r, j, ⟨hrd.out _ _ hr.out.rd, PsT.hi5 hr.out.ps (by omega) _ _ _ _ _, (ho1.fp.trans hr.out.fp).hi5 (Nat.le_refl _) _ _ _ _ _, hr.out.le, hr.out.ge, hr.out.res.up (by have := ho1.size; omega) _ _ _ _ _⟩⟩
set_option maxRecDepth 100000 in
set_option maxHeartbeats 8000000 in
/-- parser.operand at a value, or a ref. -/
theorem od_leaf (w0 : World) (s : ByteArray) (p n i : Nat) (hs : s.size ≤ 1000000) (hi : i ≤ s.size) (hn : n ≤ 32) (h : opens (tokAt parC s i) = true) (h4 : (tokAt parC s i).text ≠ ⟨#[40]⟩) (hk : (tokAt parC s i).kind = 3 ∨ (tokAt parC s i).kind = 4) : JobC 66 #[.int .i64 (n : Int)] s p (.od n i) w0 := by
  intro W he hp
  change PsAt W p s i at hp
  have ho := odw_new he hp
  have hpl := hp.lt
  have hop := fun W => opens_any (tokAt parC s i) W
  have h40 := is40 (tokAt parC s i).text
  rw [decide_eq_false h4] at h40
  rw [h] at hop
  have hnl := nxt_le s i hi
  have hnx : Hid (∀ W1, OdW w0 W s p i (tokAt parC s i) W1 → Calls Tryz.prog 46 #[.pointer (some ⟨p, 0, none⟩)] W1 fun e w' => e = .returned (.tuple #[]) ∧ PsAt w' p s (nxt parC s i) ∧ Fp p W1 w') := fun W1 h1 => next_any w0 W1 p s i (tokAt parC s i) h1.env h1.ps (tokAt_size s i hi) hs
  have hrn : Hid ((tokAt parC s i).kind = 3 → Rd parC s (.od n i) (.ok (exN (tokAt parC s i).v)) (nxt parC s i)) := fun h3 => Rd.odNum h (by omega) h4 h3
  have hrr : Hid ((tokAt parC s i).kind = 4 → Rd parC s (.od n i) (.ok (exR (tokAt parC s i).text)) (nxt parC s i)) := fun h3 => Rd.odRef h (by omega) h4 h3
  obtain ⟨c0, c1, c2, c3, c4, c5, c6⟩ := (PsT.grow hp (bW0 W zE)).cells
  obtain ⟨t0, t1, t2, t3, t4⟩ := ho.tok.cells
  clear hp h h4
  have hni : ¬ (32 : Int) < (n : Int) := by omega
  have hil : i ≤ nxt parC s i := by omega
  have hnl2 := hnl.2
  clear hnl
  generalize nxt parC s i = N at *
  generalize tokAt parC s i = t at *
  obtain ⟨tk, ts, tt, tv⟩ := t
  unfold tkV at hop
  unfold tkO at ho t0 t1 t2 t3 t4
  simp only at *
  show Calls Tryz.prog 66 #[.pointer (some ⟨p, 0, none⟩), .int .i64 (n : Int)] W _
  rcases hk with rfl | rfl
  · have hrd := hrn.out rfl
    clear hrn hrr
    go_enter Tryz.func66, Tryz.ntmps66
    go_wp2_with (first
      | (go_at_call 114; refine (hop _).mono ?_; rintro e w1 ⟨rfl, hb1⟩; have ho1 := ho.grow hb1; obtain ⟨t0, t1, t2, t3, t4⟩ := ho1.tok.cells; simp only at t0 t1 t2 t3 t4; have hca := hnx.out w1 ho1)
      | (go_at_call 46; refine hca.mono ?_; clear hca; rintro e w2 ⟨rfl, hp2, hf2⟩; have hz2 := ho1.res.fp hf2 (by omega); have ht2 := Bx.fp ho1.tok hf2 (by omega); obtain ⟨z0, z1, z2, z3, z4⟩ := hz2.cells; obtain ⟨y0, y1, y2, y3, y4⟩ := hz2.frozen; obtain ⟨t0, t1, t2, t3, t4⟩ := ht2.cells; simp only at t0 t1 t2 t3 t4))
    refine ret27t Tryz.results66 rfl (hz2.set) rfl ?_
    exact ⟨_, _, _, _, _, _, _, _, rfl, _, N, ⟨hrd, PsT.hi5 hp2 (by omega) _ _ _ _ _, (ho1.fp.trans hf2).hi5 (Nat.le_refl _) _ _ _ _ _, hnl2, hil, rfl, exN_V _ _ _⟩⟩
  · have hrd := hrr.out rfl
    clear hrn hrr
    go_enter Tryz.func66, Tryz.ntmps66
    go_wp2_with (first
      | (go_at_call 114; refine (hop _).mono ?_; rintro e w1 ⟨rfl, hb1⟩; have ho1 := ho.grow hb1; obtain ⟨t0, t1, t2, t3, t4⟩ := ho1.tok.cells; simp only at t0 t1 t2 t3 t4; have hca := hnx.out w1 ho1)
      | (go_at_call 46; refine hca.mono ?_; clear hca; rintro e w2 ⟨rfl, hp2, hf2⟩; have hz2 := ho1.res.fp hf2 (by omega); have ht2 := Bx.fp ho1.tok hf2 (by omega); obtain ⟨z0, z1, z2, z3, z4⟩ := hz2.cells; obtain ⟨y0, y1, y2, y3, y4⟩ := hz2.frozen; obtain ⟨t0, t1, t2, t3, t4⟩ := ht2.cells; simp only at t0 t1 t2 t3 t4))
    refine ret27t Tryz.results66 rfl (hz2.set) rfl ?_
    exact ⟨_, _, _, _, _, _, _, _, rfl, _, N, ⟨hrd, PsT.hi5 hp2 (by omega) _ _ _ _ _, (ho1.fp.trans hf2).hi5 (Nat.le_refl _) _ _ _ _ _, hnl2, hil, rfl, exR_V _ _ _⟩⟩
end Go.Proofs.YtaffplmfnincfaaGreatDoor
/- The parser: operand at a function, at a sign. -/
namespace Go.Proofs.YtaffplmfnincfaaGreatDoor
set_option linter.unusedVariables false
open Go.RowKit
/-- What comes of a kid. -/
theorem kid_res {W w2 w3 w6 : World} {k : Int} {nn : ByteArray} {x y : Int} {a : Option Addr} {m c : Nat} {er : Int} {r : Except Int Ex} (tt : ByteArray) (h : ResV w2 w3 (.agg #[.int .i64 k, .string nn, .int .i64 x, .int .i64 y, .slice a m c]) er r) (hs : W.heap.size < w2.heap.size) (hz : w2.heap.size ≤ w3.heap.size)
    (hb : Below ((w3.alloc (.cells #[.int .i64 k, .string nn, .int .i64 x, .int .i64 y, .slice a m c] 62)).alloc (.cells #[.int .i64 k, .string nn, .int .i64 x, .int .i64 y, .slice a m c] 62)).heap.size ((w3.alloc (.cells #[.int .i64 k, .string nn, .int .i64 x, .int .i64 y, .slice a m c] 62)).alloc (.cells #[.int .i64 k, .string nn, .int .i64 x, .int .i64 y, .slice a m c] 62)) w6) (f0 f1 f2 f3 f4 : Value) :
    ResV W (set5 w6 W.heap.size f0 f1 f2 f3 f4) (.agg #[.int .i64 3, .string tt, .int .i64 0, .int .i64 0, .slice (some ⟨w3.heap.size + 1, 0, none⟩) 1 1]) er (r.map fun t => exC tt [t]) := by
  cases r with
  | error x => exact h
  | ok t =>
    refine ⟨h.1, ?_⟩
    have h1 := h.2.grow (bW0 w3 (.cells #[.int .i64 k, .string nn, .int .i64 x, .int .i64 y, .slice a m c] 62))
    have h2 := exC1_V t tt _ _ _ _ _ h1 (by rw [World.size_alloc]; omega)
    rw [World.size_alloc] at h2
    exact ((h2.grow hb).hi5 (fun b hb => by omega) _ _ _ _ _).more fun b hb => by omega
set_option maxRecDepth 100000 in
set_option maxHeartbeats 8000000 in
/-- parser.operand at a function. -/
theorem od_fn (w0 : World) (s : ByteArray) (p n i : Nat) (hs : s.size ≤ 1000000) (hi : i ≤ s.size) (hn : n ≤ 32) (h : opens (tokAt parC s i) = true) (h4 : (tokAt parC s i).text ≠ ⟨#[40]⟩) (hk : (tokAt parC s i).kind = 5) (hsub : JobC 115 #[.int .i64 (n : Int)] s p (.br n (nxt parC s i)) w0) : JobC 66 #[.int .i64 (n : Int)] s p (.od n i) w0 := by
  intro W he hp
  change PsAt W p s i at hp
  have ho := odw_new he hp
  have hpl := hp.lt
  have hop := fun W => opens_any (tokAt parC s i) W
  have h40 := is40 (tokAt parC s i).text
  rw [decide_eq_false h4] at h40
  rw [h] at hop
  have hnl := nxt_le s i hi
  have hnx : Hid (∀ W1, OdW w0 W s p i (tokAt parC s i) W1 → Calls Tryz.prog 46 #[.pointer (some ⟨p, 0, none⟩)] W1 fun e w' => e = .returned (.tuple #[]) ∧ PsAt w' p s (nxt parC s i) ∧ Fp p W1 w') := fun W1 h1 => next_any w0 W1 p s i (tokAt parC s i) h1.env h1.ps (tokAt_size s i hi) hs
  have hrd : Hid (∀ r j, Rd parC s (.br n (nxt parC s i)) r j → Rd parC s (.od n i) (r.map fun t => exC (tokAt parC s i).text [t]) j) := fun r j g => by
    cases r with
    | error e => exact Rd.odFnE h (by omega) h4 hk g
    | ok x => exact Rd.odFn h (by omega) h4 hk g
  obtain ⟨c0, c1, c2, c3, c4, c5, c6⟩ := (PsT.grow hp (bW0 W zE)).cells
  obtain ⟨t0, t1, t2, t3, t4⟩ := ho.tok.cells
  clear hp h h4
  have hni : ¬ (32 : Int) < (n : Int) := by omega
  have hil : i ≤ nxt parC s i := by omega
  have hnl2 := hnl.2
  have hcl := fun n a m c W => call_any n a m c W
  clear hnl
  replace hsub : Hid (JobC 115 #[.int .i64 (n : Int)] s p (.br n (nxt parC s i)) w0) := hsub
  generalize nxt parC s i = N at *
  generalize tokAt parC s i = t at *
  obtain ⟨tk, ts, tt, tv⟩ := t
  unfold tkV at hop
  unfold tkO at ho t0 t1 t2 t3 t4
  simp only at *
  subst hk
  show Calls Tryz.prog 66 #[.pointer (some ⟨p, 0, none⟩), .int .i64 (n : Int)] W _
  go_enter Tryz.func66, Tryz.ntmps66
  go_wp2_with (first
    | (go_at_call 114; refine (hop _).mono ?_; rintro e w1 ⟨rfl, hb1⟩; have ho1 := ho.grow hb1; obtain ⟨t0, t1, t2, t3, t4⟩ := ho1.tok.cells; simp only at t0 t1 t2 t3 t4; have hca := hnx.out w1 ho1)
    | (go_at_call 46; refine hca.mono ?_; clear hca; rintro e w2 ⟨rfl, hp2, hf2⟩; have hz2 := ho1.res.fp hf2 (by omega); have ht2 := Bx.fp ho1.tok hf2 (by omega); obtain ⟨t0, t1, t2, t3, t4⟩ := ht2.cells; simp only at t0 t1 t2 t3 t4; have hcb : Calls Tryz.prog 115 #[.pointer (some ⟨p, 0, none⟩), .int .i64 (n : Int)] w2 _ := hsub.out w2 (ho1.env.fp ho1.ps.lt hf2) hp2; have hs2 : W.heap.size + 2 ≤ w2.heap.size := Nat.le_trans ho1.size hf2.size)
    | (go_at_call 115; refine hcb.mono ?_; clear hcb; rintro e w3 ⟨k, nn, x, y, a, m, c, er, rfl, r, j, hr⟩; have hbk := bW0 w3 (.cells #[.int .i64 k, .string nn, .int .i64 x, .int .i64 y, .slice a m c] 62); have hbr := hbk.trans ((bW0 (w3.alloc (.cells #[.int .i64 k, .string nn, .int .i64 x, .int .i64 y, .slice a m c] 62)) (.cells #[.int .i64 k, .string nn, .int .i64 x, .int .i64 y, .slice a m c] 62)).mono hbk.size); have ht3 := (Bx.fp ht2 hr.out.fp (by omega)).grow hbk; obtain ⟨t0, t1, t2, t3, t4⟩ := ht3.cells; (try simp only at t0 t1 t2 t3 t4); have hz5 := (hz2.fp hr.out.fp (by omega)).grow hbr)
    | (go_at_call 68; refine (hcl _ _ _ _ _).mono ?_; rintro e w6 ⟨rfl, hb6⟩; have hz6 := hz5.grow hb6; obtain ⟨z0, z1, z2, z3, z4⟩ := hz6.cells; obtain ⟨y0, y1, y2, y3, y4⟩ := hz6.frozen))
  refine ret27t Tryz.results66 rfl (hz6.set) rfl ?_
  exact ⟨_, _, _, _, _, _, _, _, rfl, _, j, ⟨hrd.out _ _ hr.out.rd, PsT.hi5 ((PsT.grow hr.out.ps hbr).grow hb6) (by omega) _ _ _ _ _, (((ho1.fp.trans hf2).trans hr.out.fp).trans ((Fp.of (p := p) hbr).trans (Fp.of (p := p) hb6))).hi5 (Nat.le_refl _) _ _ _ _ _, hr.out.le, Nat.le_trans hil hr.out.ge, kid_res tt hr.out.res (by omega) hr.out.fp.size hb6 _ _ _ _ _⟩⟩
set_option maxRecDepth 100000 in
set_option maxHeartbeats 8000000 in
/-- parser.operand at a sign. -/
theorem od_sg (w0 : World) (s : ByteArray) (p n i : Nat) (hs : s.size ≤ 1000000) (hi : i ≤ s.size) (hn : n ≤ 32) (h : opens (tokAt parC s i) = true) (h4 : (tokAt parC s i).text ≠ ⟨#[40]⟩) (hk3 : (tokAt parC s i).kind ≠ 3) (hk4 : (tokAt parC s i).kind ≠ 4) (hk5 : (tokAt parC s i).kind ≠ 5) (hsub : JobC 66 #[.int .i64 ((n : Int) + 1)] s p (.od (n + 1) (nxt parC s i)) w0) : JobC 66 #[.int .i64 (n : Int)] s p (.od n i) w0 := by
  intro W he hp
  change PsAt W p s i at hp
  have ho := odw_new he hp
  have hpl := hp.lt
  have hop := fun W => opens_any (tokAt parC s i) W
  have h40 := is40 (tokAt parC s i).text
  rw [decide_eq_false h4] at h40
  rw [h] at hop
  have hnl := nxt_le s i hi
  have hnx : Hid (∀ W1, OdW w0 W s p i (tokAt parC s i) W1 → Calls Tryz.prog 46 #[.pointer (some ⟨p, 0, none⟩)] W1 fun e w' => e = .returned (.tuple #[]) ∧ PsAt w' p s (nxt parC s i) ∧ Fp p W1 w') := fun W1 h1 => next_any w0 W1 p s i (tokAt parC s i) h1.env h1.ps (tokAt_size s i hi) hs
  have hrd : Hid (∀ r j, Rd parC s (.od (n + 1) (nxt parC s i)) r j → Rd parC s (.od n i) (r.map fun t => exC (tokAt parC s i).text [t]) j) := fun r j g => by
    cases r with
    | error e => exact Rd.odSgE h (by omega) h4 hk3 hk4 hk5 g
    | ok x => exact Rd.odSg h (by omega) h4 hk3 hk4 hk5 g
  obtain ⟨c0, c1, c2, c3, c4, c5, c6⟩ := (PsT.grow hp (bW0 W zE)).cells
  obtain ⟨t0, t1, t2, t3, t4⟩ := ho.tok.cells
  clear hp h h4
  have hni : ¬ (32 : Int) < (n : Int) := by omega
  have hil : i ≤ nxt parC s i := by omega
  have hnl2 := hnl.2
  have hcl := fun n a m c W => call_any n a m c W
  clear hnl
  replace hsub : Hid (JobC 66 #[.int .i64 ((n : Int) + 1)] s p (.od (n + 1) (nxt parC s i)) w0) := hsub
  generalize nxt parC s i = N at *
  generalize tokAt parC s i = t at *
  obtain ⟨tk, ts, tt, tv⟩ := t
  unfold tkV at hop
  unfold tkO at ho t0 t1 t2 t3 t4
  simp only at *
  have q3 : (tk == 3) = false := by simpa using hk3
  have q4 : (tk == 4) = false := by simpa using hk4
  have q5 : (tk == 5) = false := by simpa using hk5
  clear hk3 hk4 hk5
  have hn1 : (n : Int) + 1 ≤ 33 := by omega
  show Calls Tryz.prog 66 #[.pointer (some ⟨p, 0, none⟩), .int .i64 (n : Int)] W _
  go_enter Tryz.func66, Tryz.ntmps66
  go_wp2_with (first
    | (go_at_call 114; refine (hop _).mono ?_; rintro e w1 ⟨rfl, hb1⟩; have ho1 := ho.grow hb1; obtain ⟨t0, t1, t2, t3, t4⟩ := ho1.tok.cells; simp only at t0 t1 t2 t3 t4; have hca := hnx.out w1 ho1)
    | (go_at_call 46; refine hca.mono ?_; clear hca; rintro e w2 ⟨rfl, hp2, hf2⟩; have hz2 := ho1.res.fp hf2 (by omega); have ht2 := Bx.fp ho1.tok hf2 (by omega); obtain ⟨t0, t1, t2, t3, t4⟩ := ht2.cells; simp only at t0 t1 t2 t3 t4; have hcb : Calls Tryz.prog 66 #[.pointer (some ⟨p, 0, none⟩), .int .i64 ((n : Int) + 1)] w2 _ := hsub.out w2 (ho1.env.fp ho1.ps.lt hf2) hp2; have hs2 : W.heap.size + 2 ≤ w2.heap.size := Nat.le_trans ho1.size hf2.size)
    | (go_at_call 66; refine hcb.mono ?_; clear hcb; rintro e w3 ⟨k, nn, x, y, a, m, c, er, rfl, r, j, hr⟩; have hbk := bW0 w3 (.cells #[.int .i64 k, .string nn, .int .i64 x, .int .i64 y, .slice a m c] 62); have hbr := hbk.trans ((bW0 (w3.alloc (.cells #[.int .i64 k, .string nn, .int .i64 x, .int .i64 y, .slice a m c] 62)) (.cells #[.int .i64 k, .string nn, .int .i64 x, .int .i64 y, .slice a m c] 62)).mono hbk.size); have ht3 := (Bx.fp ht2 hr.out.fp (by omega)).grow hbk; obtain ⟨t0, t1, t2, t3, t4⟩ := ht3.cells; (try simp only at t0 t1 t2 t3 t4); have hz5 := (hz2.fp hr.out.fp (by omega)).grow hbr)
    | (go_at_call 68; refine (hcl _ _ _ _ _).mono ?_; rintro e w6 ⟨rfl, hb6⟩; have hz6 := hz5.grow hb6; obtain ⟨z0, z1, z2, z3, z4⟩ := hz6.cells; obtain ⟨y0, y1, y2, y3, y4⟩ := hz6.frozen))
  refine ret27t Tryz.results66 rfl (hz6.set) rfl ?_
  exact ⟨_, _, _, _, _, _, _, _, rfl, _, j, ⟨hrd.out _ _ hr.out.rd, PsT.hi5 ((PsT.grow hr.out.ps hbr).grow hb6) (by omega) _ _ _ _ _, (((ho1.fp.trans hf2).trans hr.out.fp).trans ((Fp.of (p := p) hbr).trans (Fp.of (p := p) hb6))).hi5 (Nat.le_refl _) _ _ _ _ _, hr.out.le, Nat.le_trans hil hr.out.ge, kid_res tt hr.out.res (by omega) hr.out.fp.size hb6 _ _ _ _ _⟩⟩
end Go.Proofs.YtaffplmfnincfaaGreatDoor
/- The parser: operation at the operands' level. -/
namespace Go.Proofs.YtaffplmfnincfaaGreatDoor
set_option linter.unusedVariables false
open Go.RowKit
set_option maxRecDepth 100000 in
set_option maxHeartbeats 8000000 in
/-- parser.operation at level 5. -/
theorem op_top (w0 : World) (s : ByteArray) (p n i : Nat) (hod : JobC 66 #[.int .i64 (n : Int)] s p (.od n i) w0) : JobC 47 #[.int .i64 5, .int .i64 (n : Int)] s p (.op 5 n i) w0 := by
  intro W he hp
  change PsAt W p s i at hp
  have hpl := hp.lt
  have hb := bW0 W zE
  have hz0 := bxNew W 62 (.int .i64 0) (.string ⟨#[]⟩) (.int .i64 0) (.int .i64 0) (.slice none 0 0)
  have hca : Calls Tryz.prog 66 #[.pointer (some ⟨p, 0, none⟩), .int .i64 (n : Int)] (W.alloc zE) fun e w' => PQ s p (.od n i) (W.alloc zE) e w' := hod _ (he.grow hb) (PsT.grow hp hb)
  have hrd : Hid (∀ r j, Rd parC s (.od n i) r j → Rd parC s (.op 5 n i) r j) := fun r j g => Rd.opTop parC g
  clear hod hp
  show Calls Tryz.prog 47 #[.pointer (some ⟨p, 0, none⟩), .int .i64 5, .int .i64 (n : Int)] W _
  go_enter Tryz.func47, Tryz.ntmps47
  go_wp2_with (first
    | (go_at_call 66; refine hca.mono ?_; clear hca; rintro e w2 ⟨k, nn, x, y, a, m, c, er, rfl, r, j, hr⟩; have hz2 := hz0.fp hr.out.fp (by omega); obtain ⟨z0, z1, z2, z3, z4⟩ := hz2.cells; obtain ⟨y0, y1, y2, y3, y4⟩ := hz2.frozen))
  refine ret27t Tryz.results47 rfl (hz2.set) rfl ?_
  exact ⟨_, _, _, _, _, _, _, _, rfl, r, j, ⟨hrd.out _ _ hr.out.rd, PsT.hi5 hr.out.ps (by omega) _ _ _ _ _, ((Fp.of (p := p) hb).trans hr.out.fp).hi5 (Nat.le_refl _) _ _ _ _ _, hr.out.le, hr.out.ge, hr.out.res.up (by simp) _ _ _ _ _⟩⟩
end Go.Proofs.YtaffplmfnincfaaGreatDoor
/- The parser: operation below the operands' level. -/
namespace Go.Proofs.YtaffplmfnincfaaGreatDoor
set_option linter.unusedVariables false
open Go.RowKit
theorem ExV.less {w : World} {A : Nat → Prop} {t : Ex} {u : Value} (h : ExV w A t u) : ExV w (fun b => A b ∧ b < w.heap.size) t u := by
  obtain ⟨K, h1, h2⟩ := h
  exact ⟨K, h1, kidsV.keep (fun _ _ _ => rfl) (Nat.le_refl _) (fun b h hb => ⟨h, hb⟩) _ _ h2⟩
/-- What stands between two rounds. -/
structure LpW (W : World) (s : ByteArray) (p i BX : Nat) (wr : World) (j : Nat) : Prop where
  fp : Fp p W wr
  bx : W.heap.size < BX
  lt : BX < wr.heap.size
  le : j ≤ s.size
  ge : i ≤ j
def LpOn (W wr : World) (BX : Nat) (s : ByteArray) (l n i : Nat) (u : Value) (j : Nat) : Prop := ∃ X, ExV wr (fun b => W.heap.size < b ∧ b ≠ BX) X u ∧ ∀ r q, Rd parC s (.lp l n X j) r q → Rd parC s (.op l n i) r q
def LpR (W wr : World) (BX : Nat) (s : ByteArray) (l n i : Nat) (er : Int) (u : Value) (j : Nat) : Prop := (er ≠ 0 ∧ Rd parC s (.op l n i) (.error er) j) ∨ (er = 0 ∧ ∃ X, Rd parC s (.op l n i) (.ok X) j ∧ ExV wr (fun b => W.heap.size < b ∧ b ≠ BX) X u)
def muP (p S : Nat) (e : Value) (wr : World) : Nat := if intOf e = 0 then 1 + S - (intOf ((wr.cell? ⟨p, 1, none⟩).getD (.int .i64 0))).toNat else 0
theorem lp_fin {W wr : World} {s : ByteArray} {p l n i BX j : Nat} {er : Int} {k : Int} {nn : ByteArray} {x y : Int} {a : Option Addr} {m c : Nat} (hpl : p < W.heap.size) (hp : PsAt wr p s j) (hw : LpW W s p i BX wr j)
    (hr : LpR W wr BX s l n i er (.agg #[.int .i64 k, .string nn, .int .i64 x, .int .i64 y, .slice a m c]) j) :
    PQ s p (.op l n i) W (.returned (.tuple #[.agg #[.int .i64 k, .string nn, .int .i64 x, .int .i64 y, .slice a m c], .int .i64 er])) (set5 wr W.heap.size (.int .i64 k) (.string nn) (.int .i64 x) (.int .i64 y) (.slice a m c)) := by
  have hps := PsT.hi5 hp (x := W.heap.size) (by omega) (.int .i64 k) (.string nn) (.int .i64 x) (.int .i64 y) (.slice a m c)
  have hfp := hw.fp.hi5 (Nat.le_refl _) (.int .i64 k) (.string nn) (.int .i64 x) (.int .i64 y) (.slice a m c)
  rcases hr with ⟨h0, hr⟩ | ⟨rfl, X, hr, hX⟩
  · exact ⟨_, _, _, _, _, _, _, _, rfl, .error er, j, ⟨hr, hps, hfp, hw.le, hw.ge, rfl, h0⟩⟩
  · refine ⟨_, _, _, _, _, _, _, _, rfl, .ok X, j, ⟨hr, hps, hfp, hw.le, hw.ge, rfl, ?_⟩⟩
    exact (hX.hi5 (x := W.heap.size) (fun b hb => by have := hb.1; omega) _ _ _ _ _).more fun b hb => Nat.le_of_lt hb.1
/-- One round, behind its calls. -/
theorem lp_step {w0 W wr wl w1 w3 w5 : World} {s : ByteArray} {p l n i BX j j2 : Nat} {t : Tk} {k k2 : Int} {nn nn2 : ByteArray} {x y x2 y2 : Int} {a a2 : Option Addr} {m c m2 c2 : Nat} {er2 : Int} {r2 : Except Int Ex}
    (hpl : p < W.heap.size) (hl : l < 5) (ht : t = tokAt parC s j) (hlv : levOf t.text = (l : Int)) (hw : LpW W s p i BX wr j) (hx : Bx wr BX 62 (.int .i64 k) (.string nn) (.int .i64 x) (.int .i64 y) (.slice a m c)) (hz : Bx wr W.heap.size 62 (.int .i64 0) (.string ⟨#[]⟩) (.int .i64 0) (.int .i64 0) (.slice none 0 0))
    (hon : LpOn W wr BX s l n i (.agg #[.int .i64 k, .string nn, .int .i64 x, .int .i64 y, .slice a m c]) j) (hbl : Below wr.heap.size wr wl) (hf1 : Fp p wl w1)
    (hr : Read s p (.op (l + 1) n (nxt parC s j)) (w1.alloc zE) w3 (.agg #[.int .i64 k2, .string nn2, .int .i64 x2, .int .i64 y2, .slice a2 m2 c2]) er2 r2 j2) :
    Bx w3 BX 62 (.int .i64 k) (.string nn) (.int .i64 x) (.int .i64 y) (.slice a m c) ∧ Bx w3 w1.heap.size 62 (.int .i64 0) (.string ⟨#[]⟩) (.int .i64 0) (.int .i64 0) (.slice none 0 0) ∧ Bx w3 W.heap.size 62 (.int .i64 0) (.string ⟨#[]⟩) (.int .i64 0) (.int .i64 0) (.slice none 0 0) ∧ w1.heap.size < w3.heap.size ∧ BX < w1.heap.size ∧
      Bx (set5 w3 w1.heap.size (.int .i64 k2) (.string nn2) (.int .i64 x2) (.int .i64 y2) (.slice a2 m2 c2)) BX 62 (.int .i64 k) (.string nn) (.int .i64 x) (.int .i64 y) (.slice a m c) ∧
      Hid (∀ w5, Below (((set5 w3 w1.heap.size (.int .i64 k2) (.string nn2) (.int .i64 x2) (.int .i64 y2) (.slice a2 m2 c2)).alloc (.cells #[.int .i64 k, .string nn, .int .i64 x, .int .i64 y, .slice a m c, .int .i64 k2, .string nn2, .int .i64 x2, .int .i64 y2, .slice a2 m2 c2] 62)).heap.size) ((set5 w3 w1.heap.size (.int .i64 k2) (.string nn2) (.int .i64 x2) (.int .i64 y2) (.slice a2 m2 c2)).alloc (.cells #[.int .i64 k, .string nn, .int .i64 x, .int .i64 y, .slice a m c, .int .i64 k2, .string nn2, .int .i64 x2, .int .i64 y2, .slice a2 m2 c2] 62)) w5 →
        Bx w5 BX 62 (.int .i64 k) (.string nn) (.int .i64 x) (.int .i64 y) (.slice a m c) ∧ 
        (let wn := set5 w5 BX (.int .i64 3) (.string t.text) (.int .i64 0) (.int .i64 0) (.slice (some ⟨w3.heap.size, 0, none⟩) 2 2)
         LpW W s p i BX wn j2 ∧ PsAt wn p s j2 ∧ j < j2 ∧ Bx wn W.heap.size 62 (.int .i64 0) (.string ⟨#[]⟩) (.int .i64 0) (.int .i64 0) (.slice none 0 0) ∧ Bx wn BX 62 (.int .i64 3) (.string t.text) (.int .i64 0) (.int .i64 0) (.slice (some ⟨w3.heap.size, 0, none⟩) 2 2) ∧
          ((er2 ≠ 0 ∨ l = 2) → LpR W wn BX s l n i er2 (.agg #[.int .i64 3, .string t.text, .int .i64 0, .int .i64 0, .slice (some ⟨w3.heap.size, 0, none⟩) 2 2]) j2) ∧
          (er2 = 0 → l ≠ 2 → LpOn W wn BX s l n i (.agg #[.int .i64 3, .string t.text, .int .i64 0, .int .i64 0, .slice (some ⟨w3.heap.size, 0, none⟩) 2 2]) j2))) := by
  have hb1 := bW0 w1 zE
  have s1 := hbl.size
  have s2 := hf1.size
  have s3 : w1.heap.size < (w1.alloc zE).heap.size := by simp
  have s4 := hr.fp.size
  have hlt := hw.lt
  have hbx := hw.bx
  have hxa := (hx.grow hbl).fp hf1 (by omega)
  have hx1 := (hxa.grow hb1).fp hr.fp (by omega)
  have hz1 := (((hz.grow hbl).fp hf1 (by omega)).grow hb1).fp hr.fp (by omega)
  have hy1 := (bxNew w1 62 (.int .i64 0) (.string ⟨#[]⟩) (.int .i64 0) (.int .i64 0) (.slice none 0 0)).fp hr.fp (by omega)
  have hset : ∀ {q : Nat} {u0 u1 u2 u3 u4 : Value}, q ≠ w1.heap.size → Bx w3 q 62 u0 u1 u2 u3 u4 → Bx (set5 w3 w1.heap.size (.int .i64 k2) (.string nn2) (.int .i64 x2) (.int .i64 y2) (.slice a2 m2 c2)) q 62 u0 u1 u2 u3 u4 := fun hq h => (set5_block hq).trans h
  refine ⟨hx1, hy1, hz1, by omega, by omega, hset (by omega) hx1, fun w5 hb5 => ?_⟩
  generalize hS : set5 w3 w1.heap.size (.int .i64 k2) (.string nn2) (.int .i64 x2) (.int .i64 y2) (.slice a2 m2 c2) = S at *
  have sS : S.heap.size = w3.heap.size := by rw [← hS]; exact set5_size
  have hbS := bW0 S (.cells #[.int .i64 k, .string nn, .int .i64 x, .int .i64 y, .slice a m c, .int .i64 k2, .string nn2, .int .i64 x2, .int .i64 y2, .slice a2 m2 c2] 62)
  have hb6 : Below S.heap.size S w5 := hbS.trans (hb5.mono (by simp))
  have hx5 := (hset (by omega) hx1).grow hb6
  have hz5 := (hset (by omega) hz1).grow hb6
  have s6 := hb6.size
  refine ⟨hx5, ?_⟩
  intro wn
  have hnl := nxt_more s j hw.le (.inr (by
    rw [← ht]
    intro e
    rw [e] at hlv
    have : levOf ⟨#[]⟩ = 6 := by decide
    omega))
  have hge : nxt parC s j ≤ j2 := hr.ge
  have hfS : Fp p W S := by
    rw [← hS]
    exact ((((hw.fp.trans (Fp.of hbl)).trans hf1).trans (Fp.of hb1)).trans hr.fp).hi5 (by omega) _ _ _ _ _
  have hfn : Fp p W wn := (hfS.trans (Fp.of hb6)).hi5 (by omega) _ _ _ _ _
  have hpn : PsAt wn p s j2 := by
    have h1 : PsT S p s j2 (tokAt parC s j2) := by rw [← hS]; exact PsT.hi5 hr.ps (by omega) _ _ _ _ _
    exact PsT.hi5 (PsT.grow h1 hb6) (by omega) _ _ _ _ _
  have swn : wn.heap.size = w5.heap.size := set5_size
  have hzn : Bx wn W.heap.size 62 (.int .i64 0) (.string ⟨#[]⟩) (.int .i64 0) (.int .i64 0) (.slice none 0 0) := (set5_block (by omega)).trans hz5
  have hxn : Bx wn BX 62 (.int .i64 3) (.string t.text) (.int .i64 0) (.int .i64 0) (.slice (some ⟨w3.heap.size, 0, none⟩) 2 2) := hx5.set
  obtain ⟨X, hX, hXr⟩ := hon
  -- the tree of both
  have hExV : ∀ Y, ExV w3 (fun b => (w1.alloc zE).heap.size ≤ b) Y (.agg #[.int .i64 k2, .string nn2, .int .i64 x2, .int .i64 y2, .slice a2 m2 c2]) → ExV wn (fun b => W.heap.size < b ∧ b ≠ BX) (exC t.text [X, Y]) (.agg #[.int .i64 3, .string t.text, .int .i64 0, .int .i64 0, .slice (some ⟨w3.heap.size, 0, none⟩) 2 2]) := fun Y hY => by
    have g0 := hX.less
    have g1 := ((g0.grow hbl).fp hf1 (fun b hb => by have := hb.1.1; omega)).grow hb1
    have g2 := g1.fp hr.fp (fun b hb => by have := hb.1.1; omega)
    have g3 := g2.hi5 (x := w1.heap.size) (fun b hb => by have := hb.2; omega) (.int .i64 k2) (.string nn2) (.int .i64 x2) (.int .i64 y2) (.slice a2 m2 c2)
    have k3 := hY.hi5 (x := w1.heap.size) (fun b hb => by omega) (.int .i64 k2) (.string nn2) (.int .i64 x2) (.int .i64 y2) (.slice a2 m2 c2)
    rw [hS] at g3 k3
    have h1 := exC2_V (A := fun b => W.heap.size < b ∧ b ≠ BX) X Y t.text _ _ _ _ _ _ _ _ _ _ (g3.more fun b hb => hb.1) (k3.more fun b hb => ⟨by omega, by omega⟩) ⟨by omega, by omega⟩
    have h2 := (h1.grow hb5).hi5 (x := BX) (fun b hb => hb.2) (.int .i64 3) (.string t.text) (.int .i64 0) (.int .i64 0) (.slice (some ⟨w3.heap.size, 0, none⟩) 2 2)
    rw [sS] at h2
    exact h2
  refine ⟨⟨hfn, hbx, by omega, hr.le, by have := hw.ge; omega⟩, hpn, by omega, hzn, hxn, ?_, ?_⟩
  · intro hc
    cases r2 with
    | error xe =>
      obtain ⟨rfl, hne⟩ := hr.res
      exact .inl ⟨hne, hXr _ _ (Rd.lpErr parC (by rw [← ht]; exact hlv) hr.rd)⟩
    | ok Y =>
      obtain ⟨h0, hY⟩ := hr.res
      rcases hc with hc | hc
      · exact absurd h0 hc
      · subst hc
        have h1 := Rd.lpRel parC (x := X) (by rw [← ht]; exact hlv) hr.rd
        rw [← ht] at h1
        exact .inr ⟨h0, _, hXr _ _ h1, hExV Y hY⟩
  · intro h0 hl2
    cases r2 with
    | error xe =>
      obtain ⟨rfl, hne⟩ := hr.res
      exact absurd h0 hne
    | ok Y =>
      obtain ⟨_, hY⟩ := hr.res
      refine ⟨_, hExV Y hY, fun r q hq => hXr _ _ (Rd.lpMore parC (by rw [← ht]; exact hlv) hl2 hr.rd ?_)⟩
      rw [← ht]
      exact hq
end Go.Proofs.YtaffplmfnincfaaGreatDoor
/- The parser: operation's loop. -/
namespace Go.Proofs.YtaffplmfnincfaaGreatDoor
set_option linter.unusedVariables false
open Go.RowKit
theorem mu_lt {wr wn : World} {p j j2 : Nat} {s : ByteArray} {t t2 : Tk} {er2 : Int} (h : PsT wr p s j t) (g : PsT wn p s j2 t2) (hj : j < j2) (hle : j2 ≤ s.size) : muP p s.size (.int .i64 er2) wn < muP p s.size (.int .i64 0) wr := by
  unfold muP
  rw [h.cells.2.1, g.cells.2.1]
  show (if er2 = 0 then 1 + s.size - (j2 : Int).toNat else 0) < (if (0 : Int) = 0 then 1 + s.size - (j : Int).toNat else 0)
  rw [if_pos rfl]
  split <;> omega
def LpI (W : World) (s : ByteArray) (p l n i BX : Nat) (e : Value) (wr : World) : Prop :=
  ∃ (k : Int) (nn : ByteArray) (x y : Int) (a : Option Addr) (m c : Nat) (er : Int) (j : Nat), e = .int .i64 er ∧ Bx wr BX 62 (.int .i64 k) (.string nn) (.int .i64 x) (.int .i64 y) (.slice a m c) ∧ Bx wr W.heap.size 62 (.int .i64 0) (.string ⟨#[]⟩) (.int .i64 0) (.int .i64 0) (.slice none 0 0) ∧ Hid (PsAt wr p s j) ∧ Hid (LpW W s p i BX wr j) ∧
    Hid ((er = 0 ∧ LpOn W wr BX s l n i (.agg #[.int .i64 k, .string nn, .int .i64 x, .int .i64 y, .slice a m c]) j) ∨ (er ≠ 0 ∧ LpR W wr BX s l n i er (.agg #[.int .i64 k, .string nn, .int .i64 x, .int .i64 y, .slice a m c]) j))
theorem lp_start {W w2 : World} {s : ByteArray} {p l n i j : Nat} {er : Int} {r : Except Int Ex} {k : Int} {nn : ByteArray} {x y : Int} {a : Option Addr} {m c : Nat} (hl : l < 5) (hpl : p < W.heap.size)
    (hr : Read s p (.op (l + 1) n i) (W.alloc zE) w2 (.agg #[.int .i64 k, .string nn, .int .i64 x, .int .i64 y, .slice a m c]) er r j) :
    LpI W s p l n i w2.heap.size (.int .i64 er) (w2.alloc (.cells #[.int .i64 k, .string nn, .int .i64 x, .int .i64 y, .slice a m c] 62)) := by
  have hb := bW0 W zE
  have hb2 := bW0 w2 (.cells #[.int .i64 k, .string nn, .int .i64 x, .int .i64 y, .slice a m c] 62)
  have s1 := hr.fp.size
  have s2 : W.heap.size < (W.alloc zE).heap.size := by simp
  have hz := ((bxNew W 62 (.int .i64 0) (.string ⟨#[]⟩) (.int .i64 0) (.int .i64 0) (.slice none 0 0)).fp hr.fp (by omega)).grow hb2
  refine ⟨k, nn, x, y, a, m, c, er, j, rfl, bxNew w2 62 _ _ _ _ _, hz, PsT.grow hr.ps hb2, ⟨((Fp.of (p := p) hb).trans hr.fp).trans (Fp.of hb2), by omega, by simp, hr.le, hr.ge⟩, ?_⟩
  cases r with
  | error xe =>
    obtain ⟨rfl, hne⟩ := hr.res
    exact .inr ⟨hne, .inl ⟨hne, Rd.opErr parC (by omega) hr.rd⟩⟩
  | ok X =>
    obtain ⟨rfl, hX⟩ := hr.res
    exact .inl ⟨rfl, X, (hX.less.grow hb2).more fun b hb => ⟨by have := hb.1; omega, by have := hb.2; omega⟩, fun r q hq => Rd.opLp parC (by omega) hr.rd hq⟩
set_option maxRecDepth 100000 in
set_option maxHeartbeats 8000000 in
/-- parser.operation at the levels of two. -/
theorem op_lp (w0 : World) (s : ByteArray) (p l n i : Nat) (hs : s.size ≤ 1000000) (hi : i ≤ s.size) (hn : n ≤ 1000) (hl : l < 5)
    (hsub : ∀ N, i ≤ N → N ≤ s.size → JobC 47 #[.int .i64 ((l : Int) + 1), .int .i64 (n : Int)] s p (.op (l + 1) n N) w0) : JobC 47 #[.int .i64 (l : Int), .int .i64 (n : Int)] s p (.op l n i) w0 := by
  intro W he hp
  change PsAt W p s i at hp
  have hpl := hp.lt
  have hb := bW0 W zE
  have hca : Calls Tryz.prog 47 #[.pointer (some ⟨p, 0, none⟩), .int .i64 ((l : Int) + 1), .int .i64 (n : Int)] (W.alloc zE) fun e w' => PQ s p (.op (l + 1) n i) (W.alloc zE) e w' := hsub i (Nat.le_refl _) hi _ (he.grow hb) (PsT.grow hp hb)
  have hl5 : ((l : Int) == 5) = false := by rw [beq_eq_false_iff_ne]; omega
  have hlb : (l : Int) + 1 ≤ 5 := by omega
  replace hsub : Hid (∀ N, i ≤ N → N ≤ s.size → JobC 47 #[.int .i64 ((l : Int) + 1), .int .i64 (n : Int)] s p (.op (l + 1) n N) w0) := hsub
  clear hp hb
  show Calls Tryz.prog 47 #[.pointer (some ⟨p, 0, none⟩), .int .i64 (l : Int), .int .i64 (n : Int)] W _
  go_enter Tryz.func47, Tryz.ntmps47
  go_wp2_with (first
    | (go_at_call 47; refine hca.mono ?_; clear hca; rintro e w2 ⟨k, nn, x, y, a, m, c, er, rfl, r, j, hr⟩; have hst := lp_start hl hpl hr.out))
  go_loopw [9] (fun e wr => LpI W s p l n i w2.heap.size e wr) (fun e wr => muP p s.size e wr)
  case atStart => exact hst
  case round =>
    clear hst hr
    generalize w2.heap.size = BX at *
    obtain ⟨k, nn, x, y, a, m, c, er, j, rfl, hx, hz, hp, hw, hcase⟩ := hrel
    have hfin : Hid (∀ (wf : World) (er : Int) (k : Int) (nn : ByteArray) (x y : Int) (a : Option Addr) (m c j : Nat), PsAt wf p s j → LpW W s p i BX wf j → LpR W wf BX s l n i er (.agg #[.int .i64 k, .string nn, .int .i64 x, .int .i64 y, .slice a m c]) j → PQ s p (.op l n i) W (.returned (.tuple #[.agg #[.int .i64 k, .string nn, .int .i64 x, .int .i64 y, .slice a m c], .int .i64 er])) (set5 wf W.heap.size (.int .i64 k) (.string nn) (.int .i64 x) (.int .i64 y) (.slice a m c))) := fun wf er k nn x y a m c j h1 h2 h3 => lp_fin hpl h1 h2 h3
    rcases hcase.out with ⟨rfl, hon⟩ | ⟨hne, hR⟩
    · replace hon : Hid (LpOn W wr BX s l n i (.agg #[.int .i64 k, .string nn, .int .i64 x, .int .i64 y, .slice a m c]) j) := hon
      clear hcase
      obtain ⟨t, ht⟩ : ∃ t, Hid (t = tokAt parC s j) := ⟨_, rfl⟩
      have hpt : PsT wr p s j t := by rw [ht.out]; exact hp.out
      have hEn : Env w0 wr p := he.fp hpl hw.out.fp
      have hlev := level_any t wr (hEn.sg.grow hEn.low)
      obtain ⟨c0, c1, c2, c3, c4, c5, c6⟩ := hpt.cells
      obtain ⟨x0, x1, x2, x3, x4⟩ := hx.cells
      obtain ⟨z0, z1, z2, z3, z4⟩ := hz.cells
      obtain ⟨f0, f1, f2, f3, f4⟩ := hz.frozen
      by_cases hlv : levOf t.text = (l : Int)
      · have hlv' : (levOf t.text == (l : Int)) = true := beq_iff_eq.2 hlv
        have hNX : Hid (∀ wl, Below wr.heap.size wr wl → Calls Tryz.prog 46 #[.pointer (some ⟨p, 0, none⟩)] wl fun e w' => e = .returned (.tuple #[]) ∧ PsAt w' p s (nxt parC s j) ∧ Fp p wl w') := fun wl hbl => by
          have h1 := next_any w0 wl p s j t (hEn.grow hbl) (hpt.grow hbl) (by rw [ht.out]; exact tokAt_size s j hw.out.le) hs
          have h2 : skipB s (j + t.size) = nxt parC s j := by rw [ht.out]; rfl
          rw [h2] at h1
          exact h1
        have hSUB : Hid (∀ wl w1, Below wr.heap.size wr wl → Fp p wl w1 → PsAt w1 p s (nxt parC s j) → Calls Tryz.prog 47 #[.pointer (some ⟨p, 0, none⟩), .int .i64 ((l : Int) + 1), .int .i64 (n : Int)] (w1.alloc zE) fun e w' => PQ s p (.op (l + 1) n (nxt parC s j)) (w1.alloc zE) e w') := fun wl w1 hbl hf1 hp1 => by
          have h1 := nxt_le s j hw.out.le
          have hb1 := bW0 w1 zE
          have hpw := hpt.lt
          refine hsub.out (nxt parC s j) (by have := hw.out.ge; omega) h1.2 _ (((hEn.grow hbl).fp (Nat.lt_of_lt_of_le hpw hbl.size) hf1).grow hb1) (PsT.grow hp1 hb1)
        have hSTEP : Hid (∀ (wl w1 w3 : World) (k2 : Int) (nn2 : ByteArray) (x2 y2 : Int) (a2 : Option Addr) (m2 c2 : Nat) (er2 : Int) (r2 : Except Int Ex) (j2 : Nat), Below wr.heap.size wr wl → Fp p wl w1 → Read s p (.op (l + 1) n (nxt parC s j)) (w1.alloc zE) w3 (.agg #[.int .i64 k2, .string nn2, .int .i64 x2, .int .i64 y2, .slice a2 m2 c2]) er2 r2 j2 → _) := fun wl w1 w3 k2 nn2 x2 y2 a2 m2 c2 er2 r2 j2 hbl hf1 hr => lp_step (w0 := w0) (w5 := w0) hpl hl ht.out hlv hw.out hx hz hon.out hbl hf1 hr
        have hMU : Hid (∀ (wn : World) (j2 : Nat) (er2 : Int), PsAt wn p s j2 → j < j2 → j2 ≤ s.size → muP p s.size (.int .i64 er2) wn < muP p s.size (.int .i64 0) wr) := fun wn j2 er2 h1 h2 h3 => mu_lt hpt h1 h2 h3
        obtain ⟨tk, ts, tt, tv⟩ := t
        simp only at hlev hlv' hSTEP c2 c3 c4 c5 c6
        have hcl := fun (a : Option Addr) (W : World) => call_any tt a 2 2 W
        unfold tkV at hlev
        simp only at hlev
        generalize levOf tt = LV at *
        clear hsub hlv hon
        by_cases h2 : l = 2
        · have h2' : ((l : Int) == 2) = true := by rw [beq_iff_eq]; omega
          replace h2 : Hid (l = 2) := h2
          go_wp2_with (first
            | (go_at_call 67; refine hlev.mono ?_; clear hlev; rintro e wl ⟨rfl, hbl⟩; have hp1 := hpt.grow hbl; clear c0 c1 c2 c3 c4 c5 c6 x0 x1 x2 x3 x4 z0 z1 z2 z3 z4 f0 f1 f2 f3 f4; obtain ⟨c0, c1, c2, c3, c4, c5, c6⟩ := hp1.cells)
            | (go_at_call 46; (with_reducible refine (hNX.out wl hbl).mono ?_); clear hNX c0 c1 c2 c3 c4 c5 c6; rintro e w1 ⟨rfl, hpN, hf1⟩; have hca := hSUB.out wl w1 hbl hf1 hpN)
            | (go_at_call 47; refine hca.mono ?_; clear hca hSUB; rintro e w3 ⟨k2, nn2, x2, y2, a2, m2, c2, er2, rfl, r2, j2, hr⟩; apply Hid.out))
          obtain ⟨hx3, hy3, hz3, s13, sB1, hxS, hN⟩ := hSTEP.out wl w1 w3 k2 nn2 x2 y2 a2 m2 c2 er2 r2 j2 hbl hf1 hr.out
          clear hSTEP
          have hyS := hy3.set (a' := .int .i64 k2) (b' := .string nn2) (c' := .int .i64 x2) (d' := .int .i64 y2) (e' := .slice a2 m2 c2)
          obtain ⟨y0, y1, y2', y3, y4⟩ := hy3.cells
          obtain ⟨g0, g1, g2, g3, g4⟩ := hy3.frozen
          unfold set5 at hxS hyS
          obtain ⟨x0, x1, x2', x3, x4⟩ := hxS.cells
          obtain ⟨v0, v1, v2, v3, v4⟩ := hyS.cells
          unfold Hid
          clear hx3 hy3 hxS hyS
          go_wp2_with (first
            | (go_at_call 68; refine (hcl _ _).mono ?_; rintro e w5 ⟨rfl, hb5⟩; apply Hid.out))
          obtain ⟨hx5, hL, hpn, hjj, hzn, hxn, hRR, hOO⟩ := hN.out w5 hb5
          clear hN hb5 x0 x1 x2' x3 x4 v0 v1 v2 v3 v4 y0 y1 y2' y3 y4 g0 g1 g2 g3 g4
          unfold Hid
          obtain ⟨x0, x1, x2', x3, x4⟩ := hx5.cells
          obtain ⟨g0, g1, g2, g3, g4⟩ := hx5.frozen
          have hRb := hRR (.inr h2.out)
          replace hRb : Hid _ := hRb
          replace hL : Hid _ := hL
          replace hpn : Hid _ := hpn
          have hzn' := hzn
          unfold set5 at hxn hzn
          obtain ⟨k0, k1, k2', k3, k4⟩ := hxn.cells
          obtain ⟨z0, z1, z2, z3, z4⟩ := hzn.cells
          obtain ⟨f0, f1, f2, f3, f4⟩ := hzn.frozen
          clear hx5 hxn hzn hRR hOO hjj hx hz hz3
          go_wp2
          refine ret27t Tryz.results47 rfl (hzn'.set) rfl ?_
          exact hfin.out _ er2 _ _ _ _ _ _ _ j2 hpn.out hL.out hRb.out
        · have h2' : ((l : Int) == 2) = false := by rw [beq_eq_false_iff_ne]; omega
          replace h2 : Hid (l ≠ 2) := h2
          go_wp2_with (first
            | (go_at_call 67; refine hlev.mono ?_; clear hlev; rintro e wl ⟨rfl, hbl⟩; have hp1 := hpt.grow hbl; clear c0 c1 c2 c3 c4 c5 c6 x0 x1 x2 x3 x4 z0 z1 z2 z3 z4 f0 f1 f2 f3 f4; obtain ⟨c0, c1, c2, c3, c4, c5, c6⟩ := hp1.cells)
            | (go_at_call 46; (with_reducible refine (hNX.out wl hbl).mono ?_); clear hNX c0 c1 c2 c3 c4 c5 c6; rintro e w1 ⟨rfl, hpN, hf1⟩; have hca := hSUB.out wl w1 hbl hf1 hpN)
            | (go_at_call 47; refine hca.mono ?_; clear hca hSUB; rintro e w3 ⟨k2, nn2, x2, y2, a2, m2, c2, er2, rfl, r2, j2, hr⟩; apply Hid.out))
          obtain ⟨hx3, hy3, hz3, s13, sB1, hxS, hN⟩ := hSTEP.out wl w1 w3 k2 nn2 x2 y2 a2 m2 c2 er2 r2 j2 hbl hf1 hr.out
          clear hSTEP
          have hyS := hy3.set (a' := .int .i64 k2) (b' := .string nn2) (c' := .int .i64 x2) (d' := .int .i64 y2) (e' := .slice a2 m2 c2)
          obtain ⟨y0, y1, y2', y3, y4⟩ := hy3.cells
          obtain ⟨g0, g1, g2, g3, g4⟩ := hy3.frozen
          unfold set5 at hxS hyS
          obtain ⟨x0, x1, x2', x3, x4⟩ := hxS.cells
          obtain ⟨v0, v1, v2, v3, v4⟩ := hyS.cells
          unfold Hid
          clear hx3 hy3 hxS hyS
          go_wp2_with (first
            | (go_at_call 68; refine (hcl _ _).mono ?_; rintro e w5 ⟨rfl, hb5⟩; apply Hid.out))
          obtain ⟨hx5, hL, hpn, hjj, hzn, hxn, hRR, hOO⟩ := hN.out w5 hb5
          clear hN hb5 x0 x1 x2' x3 x4 v0 v1 v2 v3 v4 y0 y1 y2' y3 y4 g0 g1 g2 g3 g4
          unfold Hid
          obtain ⟨x0, x1, x2', x3, x4⟩ := hx5.cells
          obtain ⟨g0, g1, g2, g3, g4⟩ := hx5.frozen
          replace hRR : Hid _ := hRR
          replace hOO : Hid _ := hOO
          replace hjj : Hid _ := hjj
          replace hL : Hid _ := hL
          replace hpn : Hid _ := hpn
          have hzn' := hzn
          have hxn' := hxn
          unfold set5 at hxn hzn
          obtain ⟨k0, k1, k2', k3, k4⟩ := hxn.cells
          obtain ⟨z0, z1, z2, z3, z4⟩ := hzn.cells
          obtain ⟨f0, f1, f2, f3, f4⟩ := hzn.frozen
          clear hx5 hxn hzn hx hz hz3
          go_wp2
          go_roundw
          case rel =>
            refine ⟨_, _, _, _, _, _, _, er2, j2, rfl, hxn', hzn', hpn, hL, ?_⟩
            by_cases h0 : er2 = 0
            · exact .inl ⟨h0, hOO.out h0 h2.out⟩
            · exact .inr ⟨h0, hRR.out (.inl h0)⟩
          case measure => exact hMU.out _ j2 er2 hpn.out hjj.out hL.out.le
      · have hlv' : (levOf t.text == (l : Int)) = false := beq_eq_false_iff_ne.2 hlv
        have hR : Hid (LpR W wr BX s l n i 0 (.agg #[.int .i64 k, .string nn, .int .i64 x, .int .i64 y, .slice a m c]) j) := by
          obtain ⟨X, hX, hXr⟩ := hon.out
          exact .inr ⟨rfl, X, hXr _ _ (Rd.lpEnd parC (by rw [← ht.out]; exact hlv)), hX⟩
        have hbk : Hid (∀ wl, Below wr.heap.size wr wl → LpW W s p i BX wl j ∧ PsAt wl p s j ∧ LpR W wl BX s l n i 0 (.agg #[.int .i64 k, .string nn, .int .i64 x, .int .i64 y, .slice a m c]) j) := fun wl hbl => by
          refine ⟨⟨hw.out.fp.trans (Fp.of hbl), hw.out.bx, Nat.lt_of_lt_of_le hw.out.lt hbl.size, hw.out.le, hw.out.ge⟩, PsT.grow hp.out hbl, ?_⟩
          rcases hR.out with ⟨h0, _⟩ | ⟨_, X, h1, h2⟩
          · exact absurd rfl h0
          · exact .inr ⟨rfl, X, h1, h2.grow hbl⟩
        obtain ⟨tk, ts, tt, tv⟩ := t
        simp only at *
        unfold tkV at hlev
        simp only at hlev
        generalize levOf tt = LV at *
        clear hsub hlv hon hpt hR
        go_wp2_with (first
          | (go_at_call 67; refine hlev.mono ?_; clear hlev; rintro e wl ⟨rfl, hbl⟩; have hx1 := hx.grow hbl; have hz1 := hz.grow hbl; clear c0 c1 c2 c3 c4 c5 c6 x0 x1 x2 x3 x4 z0 z1 z2 z3 z4 f0 f1 f2 f3 f4; obtain ⟨x0, x1, x2, x3, x4⟩ := hx1.cells; obtain ⟨z0, z1, z2, z3, z4⟩ := hz1.cells; obtain ⟨f0, f1, f2, f3, f4⟩ := hz1.frozen))
        obtain ⟨h1, h2, h3⟩ := hbk.out wl hbl
        refine ret27t Tryz.results47 rfl (hz1.set) rfl ?_
        exact hfin.out wl 0 k nn x y a m c j h2 h1 h3
    · have hne' : (er == 0) = false := beq_eq_false_iff_ne.2 hne
      have hR' : Hid (LpR W wr BX s l n i er (.agg #[.int .i64 k, .string nn, .int .i64 x, .int .i64 y, .slice a m c]) j) := hR
      clear hcase hR hne hsub
      obtain ⟨x0, x1, x2, x3, x4⟩ := hx.cells
      obtain ⟨z0, z1, z2, z3, z4⟩ := hz.cells
      obtain ⟨f0, f1, f2, f3, f4⟩ := hz.frozen
      go_wp2
      refine ret27t Tryz.results47 rfl (hz.set) rfl ?_
      exact hfin.out wr er k nn x y a m c j hp.out hw.out hR'.out
end Go.Proofs.YtaffplmfnincfaaGreatDoor
