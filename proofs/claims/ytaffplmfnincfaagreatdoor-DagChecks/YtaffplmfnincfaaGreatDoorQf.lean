/- The parser, whole; math.Parse. -/
import Derived.Test.YtaffplmfnincfaaGreatDoorPxQc
import Derived.Test.YtaffplmfnincfaaGreatDoorQmQq
import Derived.Deep.RegionHeld3
namespace Go.Proofs.YtaffplmfnincfaaGreatDoor
set_option linter.unusedVariables false
open Go.RowKit
theorem cast1 (n : Nat) : ((n + 1 : Nat) : Int) = (n : Int) + 1 := by omega
set_option maxRecDepth 100000 in
theorem jobs (w0 : World) (s : ByteArray) (p : Nat) (hs : s.size ≤ 1000000) : ∀ m : Nat,
    (∀ l n i : Nat, l ≤ 5 → n ≤ 33 → i ≤ s.size → (s.size - i) * 8 + (7 - l) = m → JobC 47 #[.int .i64 (l : Int), .int .i64 (n : Int)] s p (.op l n i) w0) ∧
    (∀ n i : Nat, n ≤ 33 → i ≤ s.size → (s.size - i) * 8 + 1 = m → JobC 66 #[.int .i64 (n : Int)] s p (.od n i) w0) ∧
    (∀ n i : Nat, n ≤ 32 → i ≤ s.size → (s.size - i) * 8 = m → JobC 115 #[.int .i64 (n : Int)] s p (.br n i) w0) := by
  intro m
  induction m using Nat.strongRecOn with
  | _ m ih =>
    refine ⟨fun l n i hl hn hi hm => ?_, fun n i hn hi hm => ?_, fun n i hn hi hm => ?_⟩
    · by_cases h5 : l = 5
      · subst h5
        exact op_top w0 s p n i ((ih ((s.size - i) * 8 + 1) (by omega)).2.1 n i hn hi rfl)
      · refine op_lp w0 s p l n i hs hi (by omega) (by omega) fun N h1 h2 => ?_
        have := (ih ((s.size - N) * 8 + (7 - (l + 1))) (by omega)).1 (l + 1) n N (by omega) hn h2 rfl
        rw [cast1] at this
        exact this
    · by_cases h0 : opens (tokAt parC s i) = false ∨ 32 < n
      · exact od_no w0 s p n i hi (by omega) h0
      · have ho : opens (tokAt parC s i) = true := by
          cases h : opens (tokAt parC s i) with
          | true => rfl
          | false => exact absurd (.inl h) h0
        have hn2 : n ≤ 32 := by
          rcases Nat.lt_or_ge 32 n with h | h
          · exact absurd (.inr h) h0
          · exact h
        by_cases h4 : (tokAt parC s i).text = ⟨#[40]⟩
        · exact od_br w0 s p n i hi hn2 ho h4 ((ih ((s.size - i) * 8) (by omega)).2.2 n i hn2 hi rfl)
        · by_cases hk : (tokAt parC s i).kind = 3 ∨ (tokAt parC s i).kind = 4
          · exact od_leaf w0 s p n i hs hi hn2 ho h4 hk
          · have hmo := fun h => nxt_more s i hi h
            by_cases hk5 : (tokAt parC s i).kind = 5
            · have h6 := hmo (.inr (by rw [tokAt_L] at hk5 ⊢; exact tok_text _ (.inr hk5)))
              exact od_fn w0 s p n i hs hi hn2 ho h4 hk5 ((ih ((s.size - nxt parC s i) * 8) (by omega)).2.2 n _ hn2 h6.2 rfl)
            · have h6 := hmo (.inr (by
                have h7 := (opens_iff _).1 ho
                rcases h7 with h | h | h | h | h | h
                · exact absurd (.inl h) hk
                · exact absurd (.inr h) hk
                · exact absurd h hk5
                · exact absurd h h4
                · rw [h]; decide
                · rw [h]; decide))
              refine od_sg w0 s p n i hs hi hn2 ho h4 (fun h => hk (.inl h)) (fun h => hk (.inr h)) hk5 ?_
              have := (ih ((s.size - nxt parC s i) * 8 + 1) (by omega)).2.1 (n + 1) _ (by omega) h6.2 rfl
              rw [cast1] at this
              exact this
    · refine br_any w0 s p n i hs hi (by omega) fun h4 => ?_
      have h6 := nxt_more s i hi (.inr (by rw [h4]; decide))
      have := (ih ((s.size - nxt parC s i) * 8 + (7 - 0)) (by omega)).1 0 (n + 1) _ (by omega) (by omega) h6.2 rfl
      rw [cast1] at this
      exact this
/-- The whole of it. -/
theorem op_all (w0 : World) (s : ByteArray) (p i : Nat) (hs : s.size ≤ 1000000) (hi : i ≤ s.size) : JobC 47 #[.int .i64 0, .int .i64 0] s p (.op 0 0 i) w0 := (jobs w0 s p hs _).1 0 0 i (by omega) (by omega) hi rfl
/-! ### Parse -/
/-- Which error it is. -/
def ErrT (s : ByteArray) (er : Int) (j : Nat) : Prop := (1024 < s.size ∧ er = 1 ∧ j = 0) ∨ Rd parC s (.op 0 0 (skipB s 0)) (.error er) j ∨ (∃ x, Rd parC s (.op 0 0 (skipB s 0)) (.ok x) j ∧ (tokAt parC s j).kind ≠ 1 ∧ er = 110)
theorem ret27tt {fn : Func} {p q q2 : Tmp} {tmps : Array Value} {w' : World} {x : Nat} {a b c d e r r2 : Value} {Q : Ending → World → Prop} (hr : fn.results = #[.cell p 62, .tmp q, .tmp q2]) (ht : tmps[p]?.getD undef = .pointer (some ⟨x, 0, none⟩)) (hv : Bx w' x 62 a b c d e) (hs : tmps[q]?.getD undef = r) (hs2 : tmps[q2]?.getD undef = r2)
    (hq : Q (.returned (.tuple #[.agg #[a, b, c, d, e], r, r2])) w') : bodyPost Tryz.prog fn Q .ret { tmps := tmps, defers := [] } w' := by
  obtain ⟨c0, c1, c2, c3, c4⟩ := hv.cells
  refine bodyPost_ret (v := .tuple #[.agg #[a, b, c, d, e], r, r2]) ?_ rfl hq
  simp [results, hr, ht, hs, hs2, go_sem, c0, c1, c2, c3, c4]
theorem Bx.drew {w : World} {x : Nat} {T : TypeId} {a b c d e : Value} (h : Bx w x T a b c d e) : Bx w.drew x T a b c d e := h
/-- What Parse tells. -/
def ParQ (s : ByteArray) (w : World) (e : Ending) (w' : World) : Prop :=
  ∃ (k : Int) (n : ByteArray) (x y : Int) (a : Option Addr) (m c : Nat) (er : Int) (at' : Nat), e = .returned (.tuple #[.agg #[.int .i64 k, .string n, .int .i64 x, .int .i64 y, .slice a m c], .int .i64 er, .int .i64 (at' : Int)]) ∧
    Hid (Below w.heap.size w w' ∧ at' ≤ s.size ∧ ((er ≠ 0 ∧ ErrT s er at') ∨ (er = 0 ∧ s.size ≤ 1024 ∧ ∃ X, Whole (par := parC) s X ∧ ExV w' (fun b => w.heap.size ≤ b) X (.agg #[.int .i64 k, .string n, .int .i64 x, .int .i64 y, .slice a m c]))))
set_option maxRecDepth 100000 in
set_option maxHeartbeats 8000000 in
/-- math.Parse. -/
theorem parse8 (s : ByteArray) (w : World) (hG : G w) (hS : SignsAt w) (hs : s.size ≤ 9223372036854775807) : Calls Tryz.prog 28 #[.string s] w fun e w' => ParQ s w e w' := by
  have hb0 := bW0 w zE
  by_cases hlong : 1024 < s.size
  · have hl : (1024 : Int) < (s.size : Int) := by omega
    have hE : Hid (ErrT s 1 0) := .inl ⟨hlong, rfl, rfl⟩
    clear hlong
    go_enter Tryz.func28, Tryz.ntmps28
    go_wp2
    refine ret27tt Tryz.results28 rfl (bxNew w 62 _ _ _ _ _) rfl rfl ?_
    exact ⟨_, _, _, _, _, _, _, 1, 0, rfl, hb0, Nat.zero_le _, .inl ⟨by decide, hE.out⟩⟩
  · have hl : ¬ (1024 : Int) < (s.size : Int) := by omega
    have hb1 := bW0 (w.alloc zE) (.cells #[.string s, .int .i64 0, .int .i64 0, .int .i64 0, .string ⟨#[]⟩, .int .i64 0, .int .i64 0] 84)
    have hp0 : PsT ((w.alloc zE).alloc (.cells #[.string s, .int .i64 0, .int .i64 0, .int .i64 0, .string ⟨#[]⟩, .int .i64 0, .int .i64 0] 84)) (w.heap.size + 1) s 0 tk0 := by
      show ((w.heap.push _).push _)[w.heap.size + 1]? = _
      have : (w.heap.push zE).size = w.heap.size + 1 := by simp
      rw [← this, Array.getElem?_push_size]
      rfl
    have hbb : Below w.heap.size w ((w.alloc zE).alloc (.cells #[.string s, .int .i64 0, .int .i64 0, .int .i64 0, .string ⟨#[]⟩, .int .i64 0, .int .i64 0] 84)) := hb0.trans (hb1.mono hb0.size)
    have hEn : Env w ((w.alloc zE).alloc (.cells #[.string s, .int .i64 0, .int .i64 0, .int .i64 0, .string ⟨#[]⟩, .int .i64 0, .int .i64 0] 84)) (w.heap.size + 1) := ⟨hG, hS, hbb, by omega⟩
    have hz0 := (bxNew w 62 (.int .i64 0) (.string ⟨#[]⟩) (.int .i64 0) (.int .i64 0) (.slice none 0 0)).grow hb1
    have hnx := next_any w _ (w.heap.size + 1) s 0 tk0 hEn hp0 (Nat.zero_le _) (by omega)
    have hnx2 : skipB s (0 + tk0.size) = skipB s 0 := rfl
    rw [hnx2] at hnx
    have hsk := (skipB_le s 0 (Nat.zero_le _)).2
    have hsz : ((w.alloc zE).alloc (.cells #[.string s, .int .i64 0, .int .i64 0, .int .i64 0, .string ⟨#[]⟩, .int .i64 0, .int .i64 0] 84)).heap.size = w.heap.size + 2 := by simp
    have hop : Hid (∀ w1, PsAt w1 (w.heap.size + 1) s (skipB s 0) → Fp (w.heap.size + 1) ((w.alloc zE).alloc (.cells #[.string s, .int .i64 0, .int .i64 0, .int .i64 0, .string ⟨#[]⟩, .int .i64 0, .int .i64 0] 84)) w1 → Calls Tryz.prog 47 #[.pointer (some ⟨w.heap.size + 1, 0, none⟩), .int .i64 0, .int .i64 0] w1 fun e w' => PQ s (w.heap.size + 1) (.op 0 0 (skipB s 0)) w1 e w') := fun w1 h1 h2 => op_all w s (w.heap.size + 1) (skipB s 0) (by omega) hsk w1 (hEn.fp hp0.lt h2) h1
    have hAfter : Hid (∀ (w1 w2 : World) (k : Int) (nn : ByteArray) (x y : Int) (a : Option Addr) (m c : Nat) (er : Int) (r : Except Int Ex) (j : Nat), Fp (w.heap.size + 1) ((w.alloc zE).alloc (.cells #[.string s, .int .i64 0, .int .i64 0, .int .i64 0, .string ⟨#[]⟩, .int .i64 0, .int .i64 0] 84)) w1 → Read s (w.heap.size + 1) (.op 0 0 (skipB s 0)) w1 w2 (.agg #[.int .i64 k, .string nn, .int .i64 x, .int .i64 y, .slice a m c]) er r j →
        ∃ t2 : Tk, Hid (j ≤ s.size) ∧ Bx (w2.alloc (.cells #[.int .i64 k, .string nn, .int .i64 x, .int .i64 y, .slice a m c] 62)) w.heap.size 62 (.int .i64 0) (.string ⟨#[]⟩) (.int .i64 0) (.int .i64 0) (.slice none 0 0) ∧ PsT (w2.alloc (.cells #[.int .i64 k, .string nn, .int .i64 x, .int .i64 y, .slice a m c] 62)) (w.heap.size + 1) s j t2 ∧ Hid (Below w.heap.size w (w2.alloc (.cells #[.int .i64 k, .string nn, .int .i64 x, .int .i64 y, .slice a m c] 62))) ∧ Hid (w.heap.size + 2 ≤ w2.heap.size) ∧
          (((er == 0) = false ∧ (er != 0) = true ∧ Hid (ErrT s er j)) ∨ (er = 0 ∧ (t2.kind != 1) = true ∧ Hid (ErrT s 110 j)) ∨ (er = 0 ∧ (t2.kind != 1) = false ∧ Hid (∃ X, Whole (par := parC) s X ∧ ExV w2 (fun b => w1.heap.size ≤ b) X (.agg #[.int .i64 k, .string nn, .int .i64 x, .int .i64 y, .slice a m c]) ∧ w.heap.size + 2 ≤ w1.heap.size)))) := fun w1 w2 k nn x y a m c er r j hf1 hr => by
      have hbx := bW0 w2 (.cells #[.int .i64 k, .string nn, .int .i64 x, .int .i64 y, .slice a m c] 62)
      have s1 := hf1.size
      have s2 := hr.fp.size
      refine ⟨tokAt parC s j, hr.le, ((hz0.fp hf1 (by omega)).fp hr.fp (by omega)).grow hbx, PsT.grow hr.ps hbx, hbb.trans ((((hf1.trans hr.fp).below (by omega) (Nat.le_add_right _ 1))).trans (hbx.mono (by omega))), (show w.heap.size + 2 ≤ w2.heap.size by omega), ?_⟩
      cases r with
      | error xe =>
        obtain ⟨rfl, hne⟩ := hr.res
        exact .inl ⟨beq_eq_false_iff_ne.2 hne, bne_iff_ne.2 hne, .inr (.inl hr.rd)⟩
      | ok X =>
        obtain ⟨rfl, hV⟩ := hr.res
        by_cases hk : (tokAt parC s j).kind = 1
        · exact .inr (.inr ⟨rfl, by rw [hk]; rfl, X, ⟨j, hr.rd, hk⟩, hV, by omega⟩)
        · exact .inr (.inl ⟨rfl, bne_iff_ne.2 hk, .inr (.inr ⟨X, hr.rd, hk, rfl⟩)⟩)
    have hle : Hid (s.size ≤ 1024) := by show s.size ≤ 1024; omega
    clear hlong hnx2 hp0 hEn hz0 hsz
    go_enter Tryz.func28, Tryz.ntmps28
    go_wp2_with (first
      | (go_at_call 46; refine hnx.mono ?_; clear hnx; rintro e w1 ⟨rfl, hp1, hf1⟩; have hca := hop.out w1 hp1 hf1)
      | (go_at_call 47; refine hca.mono ?_; clear hca; rintro e w2 ⟨k, nn, x, y, a, m, c, er, rfl, r, j, hr⟩; obtain ⟨t2, hj, hz3, hp3, hb3, hw2, hcase⟩ := hAfter.out w1 w2 k nn x y a m c er r j hf1 hr.out; clear hAfter hop; obtain ⟨tk, ts, tt, tv⟩ := t2; simp only at hcase; obtain ⟨d0, d1, d2, d3, d4, d5, d6⟩ := hp3.cells; obtain ⟨z0, z1, z2, z3, z4⟩ := hz3.cells; obtain ⟨f0, f1, f2, f3, f4⟩ := hz3.frozen; rcases hcase with ⟨he0, hne, hE⟩ | ⟨rfl, hk, hE⟩ | ⟨rfl, hk, hX⟩))
    · have hne2 : w.heap.size ≠ w.heap.size + 1 := by omega
      generalize w2.alloc (.cells #[.int .i64 k, .string nn, .int .i64 x, .int .i64 y, .slice a m c] 62) = W3 at *
      go_region
      all_goals go_wp2
      refine ret27tt Tryz.results28 rfl (hz3.set.drew) rfl rfl ?_
      have hB := bel5 (x := w.heap.size) (.int .i64 0) (.string ⟨#[]⟩) (.int .i64 0) (.int .i64 0) (.slice none 0 0) hb3.out (Nat.le_refl _)
      exact ⟨_, _, _, _, _, _, _, er, j, rfl, ⟨hB.os, hB.tape, hB.output, hB.size, hB.block⟩, hj.out, .inl ⟨bne_iff_ne.1 hne, hE.out⟩⟩
    · have hne2 : w.heap.size ≠ w.heap.size + 1 := by omega
      generalize w2.alloc (.cells #[.int .i64 k, .string nn, .int .i64 x, .int .i64 y, .slice a m c] 62) = W3 at *
      go_region
      all_goals go_wp2
      refine ret27tt Tryz.results28 rfl (hz3.set.drew) rfl rfl ?_
      have hB := bel5 (x := w.heap.size) (.int .i64 0) (.string ⟨#[]⟩) (.int .i64 0) (.int .i64 0) (.slice none 0 0) hb3.out (Nat.le_refl _)
      exact ⟨_, _, _, _, _, _, _, 110, j, rfl, ⟨hB.os, hB.tape, hB.output, hB.size, hB.block⟩, hj.out, .inl ⟨by decide, hE.out⟩⟩
    · obtain ⟨X, hW, hV, hsz⟩ := hX.out
      have hbx := bW0 w2 (.cells #[.int .i64 k, .string nn, .int .i64 x, .int .i64 y, .slice a m c] 62)
      refine ret27tt Tryz.results28 rfl (hz3.set) rfl rfl ?_
      refine ⟨_, _, _, _, _, _, _, 0, 0, rfl, bel5 _ _ _ _ _ hb3.out (Nat.le_refl _), Nat.zero_le _, .inr ⟨rfl, hle.out, X, hW, ?_⟩⟩
      exact (((hV.grow hbx).hi5 (x := w.heap.size) (fun b hb => by omega) _ _ _ _ _).more fun b hb => by omega)
end Go.Proofs.YtaffplmfnincfaaGreatDoor
