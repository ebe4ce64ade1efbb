/- DagChecks: the document's parser: all of it; Parse. -/
import Derived.Test.YtaffplmfnincfaaGreatDoorZm
import Derived.Test.YtaffplmfnincfaaGreatDoorFaFd
import Derived.Test.YtaffplmfnincfaaGreatDoorRaRf
import Derived.Test.YtaffplmfnincfaaGreatDoorZfZi
namespace Go.Proofs.YtaffplmfnincfaaGreatDoor
set_option linter.unusedVariables false
open Go.RowKit
theorem all_jobs {s : ByteArray} (hs : s.size ≤ 1024) (hV : ParC) (hN1 : ValC 82 nul) (hN2 : ValC 83 nan) (hN3 : ValC 40 pls) : ∀ n d, d + n = 33 → JD 50 d s (Job.op 0 d) ∧ JD 185 d s (Job.od d) := by
  have tp : ∀ d, JD 185 d s (Job.od d) → JD 185 d s (Job.op 5 d) := fun d h W p i e t h1 h2 => (h W p i e t h1 h2).mono fun r w' h => by
    obtain ⟨k, n, x, y, a, m, c, h3, j, e', t', X, h4⟩ := h
    exact ⟨k, n, x, y, a, m, c, h3, j, e', t', X, ⟨h4.out.ge, h4.out.le, h4.out.rp, h4.out.fp, h4.out.er, h4.out.v, h4.out.we.top⟩⟩
  have up : ∀ d, d ≤ 33 → JD 185 d s (Job.od d) → JD 50 d s (Job.op 0 d) := fun d hd h => expr29 hs (by omega) (and63 hs (by omega) (rel92 hs (by omega) (sum140 hs (by omega) (prod170 hs (by omega) (tp d h)))))
  intro n
  induction n with
  | zero =>
    intro d hd
    have hP : PD d s := fun W p i e t hp hi h => primE hs W p i e t hp hi (fun q => absurd (h q).1 (by omega))
    have h2 := signed212 hs (by omega) hP (fun h => absurd h (by omega))
    exact ⟨up d (by omega) h2, h2⟩
  | succ n ih =>
    intro d hd
    obtain ⟨i1, i2⟩ := ih (d + 1) (by omega)
    have hP : PD d s := fun W p i e t hp hi h => by
      by_cases q : e = 0
      · subst q
        exact primO hs (by omega) i1 hV hN1 hN2 hN3 W p i t hp hi (h rfl).2
      · exact primE hs W p i e t hp hi q
    have h2 := signed212 hs (by omega) hP (fun _ => i2)
    exact ⟨up d (by omega) h2, h2⟩
theorem ret27tu {fn : Func} {p q q2 : Tmp} {tmps : Array Value} {w' : World} {x : Nat} {a b c d e r r2 : Value} {Q : Ending → World → Prop} (hr : fn.results = #[.cell p 62, .tmp q, .tmp q2]) (ht : tmps[p]?.getD undef = .pointer (some ⟨x, 0, none⟩)) (hv : Bx w' x 62 a b c d e) (hs : tmps[q]?.getD undef = r) (hs2 : tmps[q2]?.getD undef = r2)
    (hq : Q (.returned (.tuple #[.agg #[a, b, c, d, e], r, r2])) w') : bodyPost Tryz.prog fn Q .ret { tmps := tmps, defers := [] } w' := by
  obtain ⟨c0, c1, c2, c3, c4⟩ := hv.cells
  refine bodyPost_ret (v := .tuple #[.agg #[a, b, c, d, e], r, r2]) ?_ rfl hq
  simp [results, hr, ht, hs, hs2, go_sem, c0, c1, c2, c3, c4]
/-- What the document's Parse tells: an error, or a tree. -/
def RpQ (s : ByteArray) (w : World) (r : Ending) (w' : World) : Prop := ∃ (k : Int) (n : ByteArray) (x y : Int) (a : Option Addr) (m c : Nat) (er at' : Int), r = .returned (.tuple #[.agg #[.int .i64 k, .string n, .int .i64 x, .int .i64 y, .slice a m c], .int .i64 er, .int .i64 at']) ∧ Hid (Below w.heap.size w w') ∧
  (((er != 0) = true ∧ Hid (¬ (s.size ≤ 1024 ∧ ∃ X, Whole (par := parC) s X))) ∨ (er = 0 ∧ Hid (s.size ≤ 1024 ∧ ∃ X, Whole (par := parC) s X ∧ ExV w' (fun b => w.heap.size ≤ b) X (.agg #[.int .i64 k, .string n, .int .i64 x, .int .i64 y, .slice a m c]))))
theorem kind_end {s : ByteArray} {q : Nat} (h : s.size ≤ q) : (tokAt parC s q).kind = 1 := by
  have : (s.extract q s.size).size = 0 := by rw [ByteArray.size_extract]; omega
  unfold tokAt firstTok
  rw [if_pos this]
theorem kind_one {s : ByteArray} {q : Nat} (h : q < s.size) : (tokAt parC s q).kind ≠ 1 := by
  unfold tokAt firstTok
  rw [if_neg (tok_size0 h)]
  split
  · unfold firstRef
    simp only
    split <;> simp [tk0]
  split
  · unfold firstNum
    split <;> simp [tk0]
  split
  · unfold ofWord
    split
    · decide
    split
    · decide
    split
    · decide
    split <;> simp [tk0]
  · unfold firstSign
    split <;> simp [tk0]
theorem rpNew (w : World) (s : ByteArray) : RpT (w.alloc (.cells #[.string s, .int .i64 0, .int .i64 0, .int .i64 0] 91)) w.heap.size s 0 0 0 := by
  show (w.heap.push _)[w.heap.size]? = _
  simp
set_option maxRecDepth 100000 in
set_option maxHeartbeats 8000000 in
/-- The document's Parse. -/
theorem rparse9 (s : ByteArray) (w : World) (hl : s.size ≤ 9223372036854775807) (hV : ParC) (hN1 : ValC 82 nul) (hN2 : ValC 83 nan) (hN3 : ValC 40 pls) : Calls Tryz.prog 30 #[.string s] w fun r w' => RpQ s w r w' := by
  by_cases hs : 1024 < s.size
  · have hsi : (1024 : Int) < (s.size : Int) := by omega
    go_enter Tryz.func30, Tryz.ntmps30
    go_wp2
    exact ret27tu Tryz.results30 rfl (bxNew w 62 _ _ _ _ _) rfl rfl ⟨_, _, _, _, _, _, _, _, _, rfl, bW0 w _, .inl ⟨rfl, fun q => by have := q.1; omega⟩⟩
  have hsi : ¬ (1024 : Int) < (s.size : Int) := by omega
  have hb := bW0 w zE
  have hb2 := bW0 (w.alloc zE) (.cells #[.string s, .int .i64 0, .int .i64 0, .int .i64 0] 91)
  have hr0 := rpNew (w.alloc zE) s
  have hz0 := (bxNew w 62 (.int .i64 0) (.string ⟨#[]⟩) (.int .i64 0) (.int .i64 0) (.slice none 0 0)).grow hb2
  have hsz := szE w
  rw [hsz] at hr0
  have hj := ((all_jobs (s := s) (by omega) hV hN1 hN2 hN3 33 0 rfl).1 _ (w.heap.size + 1) 0 0 0 hr0 (by omega))
  have hbb := hb.trans (hb2.mono hb.size)
  have hs0 : ((w.alloc zE).alloc (.cells #[.string s, .int .i64 0, .int .i64 0, .int .i64 0] 91)).heap.size = w.heap.size + 2 := by simp
  have hbl : Hid (∀ W j e t, RpT W (w.heap.size + 1) s j e t → j ≤ s.size → Calls Tryz.prog 51 #[.pointer (some ⟨w.heap.size + 1, 0, none⟩)] W fun r w' => r = .returned (.tuple #[]) ∧ ∃ j2 : Nat, j ≤ j2 ∧ j2 ≤ s.size ∧ Hid (RpT w' (w.heap.size + 1) s j2 e t) ∧ Hid (Fp (w.heap.size + 1) W w') ∧ Hid (j2 = skipB s j)) := fun W j e t h1 h2 => blanks_any W _ s j e t h1 h2 (by omega)
  have hfl : Hid (∀ W j e t at', RpT W (w.heap.size + 1) s j e t → Calls Tryz.prog 52 #[.pointer (some ⟨w.heap.size + 1, 0, none⟩), .int .i64 110, .int .i64 at'] W fun r w' => r = .returned (.tuple #[]) ∧ Hid (Fp (w.heap.size + 1) W w' ∧ ∃ e' t', RpT w' (w.heap.size + 1) s j e' t' ∧ (e ≠ 0 → e' = e) ∧ (e = 0 → e' = 110))) := fun W j e t at' h1 => fail_any W _ s j e t 110 at' h1
  generalize hW0 : (w.alloc zE).alloc (.cells #[.string s, .int .i64 0, .int .i64 0, .int .i64 0] 91) = W0 at *
  have hbb0 : Hid (Below w.heap.size w W0) := hbb
  have hz1 : Hid (∀ w3, Fp (w.heap.size + 1) W0 w3 → Bx w3 w.heap.size 62 (.int .i64 0) (.string ⟨#[]⟩) (.int .i64 0) (.int .i64 0) (.slice none 0 0)) := fun w3 h => hz0.fp h (by omega)
  clear hb hb2 hbb hz0 hsz hr0
  go_enter Tryz.func30, Tryz.ntmps30
  go_wp2_with (first
    | (go_at_call 50; (try rw [hW0]); refine hj.mono ?_; clear hj; rintro r w1 ⟨k, n, x, y, a, m, c, rfl, j, e1, t1, X, h1⟩; apply Hid.out))
  have hb3 := bW0 w1 (.cells #[.int .i64 k, .string n, .int .i64 x, .int .i64 y, .slice a m c] 62)
  have hbj := hbl.out _ j e1 t1 (h1.out.rp.grow hb3) h1.out.le
  have hsz1 := h1.out.fp.size
  unfold Hid
  go_wp2_with (first
    | (go_at_call 51; refine hbj.mono ?_; clear hbj; rintro r w2 ⟨rfl, j2, hj1, hj2, hp2, hf2, hjs⟩; apply Hid.out))
  have hf02 : Fp (w.heap.size + 1) W0 w2 := (h1.out.fp.trans (Fp.of hb3)).trans hf2.out
  have hx2 := (bxNew w1 62 (.int .i64 k) (.string n) (.int .i64 x) (.int .i64 y) (.slice a m c)).fp hf2.out (by omega)
  have hV2 := (((h1.out.v.more (A' := fun b => w.heap.size < b ∧ b ≠ w.heap.size + 1) fun b hb => ⟨by omega, by omega⟩).grow hb3).fp hf2.out (fun b hb => hb.2))
  obtain ⟨c0, c1, c2, c3⟩ := hp2.out.cells
  unfold Hid
  have hbel : ∀ w3, Fp (w.heap.size + 1) W0 w3 → Below w.heap.size w w3 := fun w3 h => hbb0.out.trans (h.below (by omega) (by omega))
  by_cases hlt : j2 < s.size
  · have hlti : (j2 : Int) < (s.size : Int) := by omega
    have hfj := hfl.out w2 j2 e1 t1 (j2 : Int) hp2.out
    go_wp2_with (first
      | (go_at_call 52; refine hfj.mono ?_; clear hfj; rintro r w3 ⟨rfl, hA⟩; apply Hid.out))
    obtain ⟨hf3, e3, t3, hp3, q1, q2⟩ := hA.out
    have hnw : Hid (¬ (s.size ≤ 1024 ∧ ∃ X, Whole (par := parC) s X)) := fun q => by
      obtain ⟨X9, k9, g1, g2⟩ := q.2
      rcases h1.out.we rfl with ⟨_, g3⟩ | ⟨_, er, k, g3⟩
      · obtain ⟨_, rfl⟩ := Rd.one parC g1 g3
        rw [← hjs.out] at g2
        exact kind_one hlt g2
      · exact absurd (Rd.one parC g1 g3).1 (by simp)
    have hne : e3 ≠ 0 := fun q => by
      by_cases q0 : e1 = 0
      · rw [q2 q0] at q; omega
      · rw [q1 q0] at q; exact q0 q
    have hnei : (e3 != 0) = true := bne_iff_ne.2 hne
    have hf03 := hf02.trans hf3
    obtain ⟨z0, z1, z2, z3, z4⟩ := (hz1.out w3 hf03).cells
    obtain ⟨f0, f1, f2, f3, f4⟩ := (hz1.out w3 hf03).frozen
    clear c0 c1 c2 c3
    obtain ⟨c0, c1, c2, c3⟩ := hp3.cells
    unfold Hid
    clear q1 q2 hne
    go_wp2
    have hzd : Hid (Bx (World.drew (set5 w3 w.heap.size (.int .i64 0) (.string ⟨#[]⟩) (.int .i64 0) (.int .i64 0) (.slice none 0 0))) w.heap.size 62 (.int .i64 0) (.string ⟨#[]⟩) (.int .i64 0) (.int .i64 0) (.slice none 0 0)) := (hz1.out w3 hf03).set
    have hbd : Hid (Below w.heap.size w (World.drew (set5 w3 w.heap.size (.int .i64 0) (.string ⟨#[]⟩) (.int .i64 0) (.int .i64 0) (.slice none 0 0)))) := (bel5 _ _ _ _ _ (hbel w3 hf03) (Nat.le_refl _)).drew
    go_region_with (fail)
    all_goals go_wp2
    all_goals (simp only [Act.put, List.getElem_toArray, List.getElem_cons_succ, List.getElem_cons_zero, List.setIfInBounds_toArray, List.set_cons_succ, List.set_cons_zero])
    all_goals exact ret27tu Tryz.results30 rfl hzd.out rfl rfl ⟨_, _, _, _, _, _, _, _, _, rfl, hbd, .inl ⟨hnei, hnw.out⟩⟩
  · have hlti : ¬ (j2 : Int) < (s.size : Int) := by omega
    obtain ⟨z0, z1, z2, z3, z4⟩ := (hz1.out w2 hf02).cells
    obtain ⟨f0, f1, f2, f3, f4⟩ := (hz1.out w2 hf02).frozen
    obtain ⟨g0, g1, g2, g3, g4⟩ := hx2.cells
    by_cases q : e1 = 0
    · have hnei : (e1 != 0) = false := by rw [q]; rfl
      have hWE : Hid (Whole (par := parC) s X) := by
        rcases h1.out.we rfl with ⟨_, g3⟩ | ⟨g3, _⟩
        · refine ⟨_, g3, ?_⟩
          rw [← hjs.out]
          exact kind_end (by omega)
        · exact absurd q g3
      clear q
      go_wp2
      refine ret27tu Tryz.results30 rfl (hz1.out w2 hf02).set rfl rfl ⟨_, _, _, _, _, _, _, _, _, rfl, (bel5 _ _ _ _ _ (hbel w2 hf02) (Nat.le_refl _)), .inr ⟨rfl, by omega, X, hWE.out, ?_⟩⟩
      exact ((hV2.hi5 (x := w.heap.size) (fun b hb => by omega) _ _ _ _ _).more fun b hb => by omega)
    · have hnei : (e1 != 0) = true := bne_iff_ne.2 q
      have hnw : Hid (¬ (s.size ≤ 1024 ∧ ∃ X, Whole (par := parC) s X)) := fun z => by
        obtain ⟨X9, k9, g1, g2⟩ := z.2
        rcases h1.out.we rfl with ⟨g3, _⟩ | ⟨_, er, k, g3⟩
        · exact q g3
        · exact absurd (Rd.one parC g1 g3).1 (by simp)
      clear q
      go_wp2
      have hzd : Hid (Bx (World.drew (set5 w2 w.heap.size (.int .i64 0) (.string ⟨#[]⟩) (.int .i64 0) (.int .i64 0) (.slice none 0 0))) w.heap.size 62 (.int .i64 0) (.string ⟨#[]⟩) (.int .i64 0) (.int .i64 0) (.slice none 0 0)) := (hz1.out w2 hf02).set
      have hbd : Hid (Below w.heap.size w (World.drew (set5 w2 w.heap.size (.int .i64 0) (.string ⟨#[]⟩) (.int .i64 0) (.int .i64 0) (.slice none 0 0)))) := (bel5 _ _ _ _ _ (hbel w2 hf02) (Nat.le_refl _)).drew
      go_region_with (fail)
      all_goals go_wp2
      all_goals (simp only [Act.put, List.getElem_toArray, List.getElem_cons_succ, List.getElem_cons_zero, List.setIfInBounds_toArray, List.set_cons_succ, List.set_cons_zero])
      all_goals exact ret27tu Tryz.results30 rfl hzd.out rfl rfl ⟨_, _, _, _, _, _, _, _, _, rfl, hbd, .inl ⟨hnei, hnw.out⟩⟩
theorem parC_r : ParC := fun u W hu => (rparse_any u W (by omega)).mono fun e w' h => ⟨_, _, _, h.1, h.2, by
  cases e : parC u with
  | some v =>
    obtain ⟨_, h2, h3⟩ := parC_yes e
    exact .inl ⟨h3, by rw [h2]⟩
  | none =>
    obtain ⟨h2, h3⟩ := parC_no e
    exact .inr ⟨by rw [h3]; decide, rfl⟩⟩
theorem val82 : ValC 82 nul := fun W => (rnull_b W).mono fun e w' h => ⟨_, _, h.1, h.2, rfl⟩
theorem val83 : ValC 83 nan := fun W => (rnan_b W).mono fun e w' h => ⟨_, _, h.1, h.2, rfl⟩
theorem val40 : ValC 40 pls := fun W => (rplus_b W).mono fun e w' h => ⟨_, _, h.1, h.2, rfl⟩
/-- The document's Parse reads what the program's reads. -/
theorem tpar (s : ByteArray) (hs : s.size ≤ 9223372036854775807) : TPar s := fun w _ _ => (rparse9 s w hs parC_r val82 val83 val40).mono fun r w' h => by
  obtain ⟨k, n, x, y, a, m, c, er, p, h1, h2, h3⟩ := h
  refine ⟨k, n, x, y, a, m, c, er, p, h1, h2, ?_⟩
  rcases h3 with ⟨h4, h5⟩ | ⟨h4, h5, X, h6, h7⟩
  · exact .inl ⟨bne_iff_ne.1 h4, h5⟩
  · exact .inr ⟨h4, h5, X, h6, h7.less2.more fun b hb => hb.2⟩
end Go.Proofs.YtaffplmfnincfaaGreatDoor
