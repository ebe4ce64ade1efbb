/- MathBack: what is printed is parsed to the same tree, or is too deep; in brackets, and with blanks, it is the same. Conditions: none beyond the row. -/
import Derived.Test.YtdhlfpgibfaimaaGreatDoorXz
import Derived.Test.YtdhlfpgibfaimaaGreatDoorXa
import Derived.Test.YtdhlfpgibfaimaaGreatDoorTie
import Derived.Test.YtdhlfpgibfaimaaGreatDoorCards
import Derived.SevenTiedAt
import Derived.OpenShut
namespace Go.Proofs.YtdhlfpgibfaimaaGreatDoor.mathBack
open Go.ChangeShapes Go.WideShapes Go.ChangeAt Go.RowKit Go.Maps Go.ChangeMaps Go.MapKept
set_option linter.unusedVariables false
attribute [local go_sem ↓] Go.wp_at_zero Go.wp_at_succ
/-- What Parse tells, for a walk. -/
theorem par2 (s : ByteArray) (w : World) (hG : G w) (hS : SignsAt w) (hs : s.size ≤ 9223372036854775807) : Calls Tryz.prog 8 #[.string s] w fun e w' => ∃ (k : Int) (n : ByteArray) (x y : Int) (a : Option Addr) (m c : Nat) (er : Int) (at' : Nat), e = .returned (.tuple #[.agg #[.int .i64 k, .string n, .int .i64 x, .int .i64 y, .slice a m c], .int .i64 er, .int .i64 (at' : Int)]) ∧
    Hid (Below w.heap.size w w' ∧ at' ≤ s.size) ∧ Hid (-1000 ≤ er ∧ er ≤ 1000) ∧ (((er != 0) = true ∧ Hid (ErrT s er at')) ∨ (er = 0 ∧ Hid (s.size ≤ 1024 ∧ ∃ X, Whole (par := parC) s X ∧ ExV w' (fun b => w.heap.size ≤ b) X (.agg #[.int .i64 k, .string n, .int .i64 x, .int .i64 y, .slice a m c])))) := by
  refine (parse8 s w hG hS hs).mono ?_
  rintro e w' ⟨k, n, x, y, a, m, c, er, at', rfl, h⟩
  obtain ⟨hb, ha, ⟨h0, hE⟩ | ⟨rfl, h1, X, hX, hV⟩⟩ := h.out
  · refine ⟨k, n, x, y, a, m, c, er, at', rfl, ⟨hb, ha⟩, ?_, .inl ⟨bne_iff_ne.2 h0, hE⟩⟩
    rcases hE.in with rfl | rfl | rfl <;> exact ⟨by decide, by decide⟩
  · exact ⟨k, n, x, y, a, m, c, 0, at', rfl, ⟨hb, ha⟩, ⟨by decide, by decide⟩, .inr ⟨rfl, h1, X, hX, hV⟩⟩
set_option maxRecDepth 100000 in
set_option maxHeartbeats 16000000 in
theorem walk (s : ByteArray) (w : World) (hG : G w ∧ SignsAt w) (hs : s.size ≤ maxLen) : Calls Tryz.prog 5 #[.string s] w fun e w' => e = .returned (.bool true) ∧ Below w.heap.size w w' := by
  obtain ⟨hG, hS⟩ := hG
  unfold maxLen at hs
  have hs15 : s.size ≤ 9223372036854775807 := by omega
  have hlv : Hid (∀ W, Below w.heap.size w W → Calls Tryz.prog 7 #[] W fun e w' => e = .returned (.bool true) ∧ Below w.heap.size w w') := fun W h => (live7 W (hG.grow h) (hS.grow h)).mono fun e w' g => ⟨g.1, h.trans (g.2.mono h.size)⟩
  have hpa := par2 s w hG hS hs15
  have hpb : Hid (∀ (t : ByteArray) W, Below w.heap.size w W → t.size ≤ 1000000000 → Calls Tryz.prog 8 #[.string t] W fun e w' => ∃ (k : Int) (n : ByteArray) (x y : Int) (a : Option Addr) (m c : Nat) (er : Int) (at' : Nat), e = .returned (.tuple #[.agg #[.int .i64 k, .string n, .int .i64 x, .int .i64 y, .slice a m c], .int .i64 er, .int .i64 (at' : Int)]) ∧
    Hid (Below W.heap.size W w' ∧ at' ≤ t.size) ∧ Hid (-1000 ≤ er ∧ er ≤ 1000) ∧ (((er != 0) = true ∧ Hid (ErrT t er at')) ∨ (er = 0 ∧ Hid (t.size ≤ 1024 ∧ ∃ X, Whole (par := parC) t X ∧ ExV w' (fun b => W.heap.size ≤ b) X (.agg #[.int .i64 k, .string n, .int .i64 x, .int .i64 y, .slice a m c]))))) := fun t W h1 h2 => par2 t W (hG.grow h1) (hS.grow h1) (by omega)
  go_enter Tryz.func5, Tryz.ntmps5
  go_wp2_with (first
    | (go_at_call 8; refine hpa.mono ?_; clear hpa; rintro e w1 ⟨k, n, x, y, a, m, c, er, at1, rfl, h1, her, hcase⟩; apply Hid.out))
  have hb1 : Below w.heap.size w (w1.alloc (.cells #[.int .i64 k, .string n, .int .i64 x, .int .i64 y, .slice a m c] 27)) := h1.out.1.trans ((bW0 w1 _).mono h1.out.1.size)
  have hn1 : ∀ W : World, Calls Tryz.prog 11 #[.int .i64 er] W fun e w' => e = .returned (.int .i64 er) ∧ w' = W := fun W => lnum_any er W her.out.1 her.out.2
  unfold Hid
  rcases hcase with ⟨hne, hE⟩ | ⟨rfl, hok⟩
  · have ha0 : (0 : Int) ≤ (at1 : Int) := by omega
    have ha1 : (at1 : Int) ≤ (s.size : Int) := by have := h1.out.2; omega
    have hli := hlv.out _ hb1
    clear hlv hpb
    go_wp2_with (first
      | (go_at_call 11; refine (hn1 _).mono ?_; rintro e wx ⟨rfl, hwx⟩; subst wx)
      | (go_at_call 7; refine hli.mono ?_; clear hli; rintro e w2 ⟨rfl, hb2⟩))
    go_ret
    exact ⟨rfl, hb2⟩
  · obtain ⟨hs1, X, hX, hV⟩ := hok.out
    have hXn := hX.nodes
    have hWF := hXn.2
    have hlenX : (prL X).length ≤ 31000 := by have := wf_len hWF; omega
    have hbx := bxNew w1 27 (.int .i64 k) (.string n) (.int .i64 x) (.int .i64 y) (.slice a m c)
    have hVa := (hV.grow (bW0 w1 (.cells #[.int .i64 k, .string n, .int .i64 x, .int .i64 y, .slice a m c] 27))).less.more (A' := fun b => b < (w1.alloc (.cells #[.int .i64 k, .string n, .int .i64 x, .int .i64 y, .slice a m c] 27)).heap.size) fun b hb => hb.2
    have hpr := prt_any _ (hG.grow hb1) hWF (by omega) k n x y a m c hVa
    have hsm : Hid (SmC X) := same_wf hWF
    have hBP : Hid (Whole (par := parC) (bB (prL X)) X ∨ DeepT (par := parC) (bB (prL X))) := back_print hX
    have hBB : Hid (Whole (par := parC) (⟨#[32, 40]⟩ ++ s ++ ⟨#[41, 32]⟩) X ∨ DeepT (par := parC) (⟨#[32, 40]⟩ ++ s ++ ⟨#[41, 32]⟩)) := back_brackets hX
    have hPs : (bB (prL X)).size ≤ 31000 := by rw [bB_size]; exact hlenX
    obtain ⟨x0, x1, x2, x3', x4⟩ := hbx.cells
    have hprX : Hid (∀ (W : World) (k : Int) (n : ByteArray) (x y : Int) (a : Option Addr) (m c : Nat), Below w.heap.size w W → ExV W (fun q => q < W.heap.size) X (.agg #[.int .i64 k, .string n, .int .i64 x, .int .i64 y, .slice a m c]) → Calls Tryz.prog 14 #[.agg #[.int .i64 k, .string n, .int .i64 x, .int .i64 y, .slice a m c]] W fun e w' => e = .returned (.string (bB (prL X))) ∧ Below W.heap.size W w') := fun W k n x y a m c h1 h2 => prt_any W (hG.grow h1) hWF (by omega) k n x y a m c h2
    generalize bB (prL X) = P at *
    generalize hW1 : w1.alloc (.cells #[.int .i64 k, .string n, .int .i64 x, .int .i64 y, .slice a m c] 27) = W1 at *
    generalize hBX : w1.heap.size = BX at *
    have hn0 : ∀ W : World, Calls Tryz.prog 11 #[.int .i64 0] W fun e w' => e = .returned (.int .i64 0) ∧ w' = W := fun W => lnum_any 0 W (by decide) (by decide)
    clear hn1 her h1 hX hXn hV hlenX hWF hok
    by_cases hPl : 1024 < P.size
    · have hPi : (1024 : Int) < (P.size : Int) := by omega
      clear hpb hprX hsm hBP hBB hPl
      go_wp2_with (first
        | (go_at_call 11; refine (hn0 _).mono ?_; rintro e wx ⟨rfl, hwx⟩; subst wx)
        | (go_at_call 14; refine hpr.mono ?_; clear hpr; rintro e w2 ⟨rfl, hb2⟩; have hb2 := hb1.trans (hb2.mono hb1.size); have hli := hlv.out _ hb2; clear hlv)
        | (go_at_call 7; refine hli.mono ?_; clear hli; rintro e w3 ⟨rfl, hb3⟩))
      go_ret
      exact ⟨rfl, hb3⟩
    · have hPi : ¬ (1024 : Int) < (P.size : Int) := by omega
      replace hPl : Hid (P.size ≤ 1024) := by show P.size ≤ 1024; omega
      go_wp2_with (first
        | (go_at_call 11; refine (hn0 _).mono ?_; rintro e wx ⟨rfl, hwx⟩; subst wx)
        | (go_at_call 14; refine hpr.mono ?_; clear hpr; rintro e w2 ⟨rfl, hb2⟩; have hcb := hpb.out P w2 (hb1.trans (hb2.mono hb1.size)) (by omega))
        | (go_at_call 8; refine hcb.mono ?_; clear hcb; rintro e w3 ⟨k3, n3, x3, y3, a3, m3, c3, er3, at3, rfl, h3, her3, hcase⟩; apply Hid.out))
      have hb3 : Below W1.heap.size W1 (w3.alloc (.cells #[.int .i64 k3, .string n3, .int .i64 x3, .int .i64 y3, .slice a3 m3 c3] 27)) := hb2.trans ((h3.out.1.trans ((bW0 w3 _).mono h3.out.1.size)).mono hb2.size)
      have hb3w := hb1.trans (hb3.mono hb1.size)
      unfold Hid
      rcases hcase with ⟨hne, hE⟩ | ⟨rfl, hok⟩
      · obtain rfl : er3 = 111 := hE.out.deep hPl.out hBP.out
        have hn111 : ∀ W : World, Calls Tryz.prog 11 #[.int .i64 111] W fun e w' => e = .returned (.int .i64 111) ∧ w' = W := fun W => lnum_any 111 W (by decide) (by decide)
        have hli := hlv.out _ hb3w
        clear hlv hpb hprX hsm hBP hBB hE
        go_wp2_with (first
          | (go_at_call 11; refine (hn111 _).mono ?_; rintro e wx ⟨rfl, hwx⟩; subst wx)
          | (go_at_call 7; refine hli.mono ?_; clear hli; rintro e w4 ⟨rfl, hb4⟩))
        go_ret
        exact ⟨rfl, hb4⟩
      · obtain ⟨_, Y, hY, hVY⟩ := hok.out
        obtain rfl : Y = X := hY.one hBP.out
        have hVb := (hVY.grow (bW0 w3 (.cells #[.int .i64 k3, .string n3, .int .i64 x3, .int .i64 y3, .slice a3 m3 c3] 27))).less.more (A' := fun b => b < (w3.alloc (.cells #[.int .i64 k3, .string n3, .int .i64 x3, .int .i64 y3, .slice a3 m3 c3] 27)).heap.size) fun b hb => hb.2
        have hVa3 := (hVa.grow hb3).less.more (A' := fun b => b < (w3.alloc (.cells #[.int .i64 k3, .string n3, .int .i64 x3, .int .i64 y3, .slice a3 m3 c3] 27)).heap.size) fun b hb => hb.2
        obtain ⟨p1, p2, p3, p4, p5⟩ := hVa.parts
        obtain ⟨q1, q2, q3, q4, q5⟩ := hVb.parts
        obtain rfl : k3 = k := q1.trans p1.symm
        obtain rfl : n3 = n := q2.trans p2.symm
        obtain rfl : x3 = x := q3.trans p3.symm
        obtain rfl : y3 = y := q4.trans p4.symm
        obtain rfl : m3 = m := q5.trans p5.symm
        clear p1 p2 p3 p4 p5 q1 q2 q3 q4 q5 hVY hok hY h3 her3 hVa
        have hxb := bxNew w3 27 (.int .i64 k3) (.string n3) (.int .i64 x3) (.int .i64 y3) (.slice a3 m3 c3)
        have hxa := hbx.grow hb3
        clear x0 x1 x2 x3' x4
        obtain ⟨x0, x1, x2, x3', x4⟩ := hxa.cells
        obtain ⟨z0, z1, z2, z3, z4⟩ := hxb.cells
        have hsa := hsm.out _ _ _ _ _ _ _ _ _ _ _ _ hVa3 hVb
        generalize hW3 : w3.alloc (.cells #[.int .i64 k3, .string n3, .int .i64 x3, .int .i64 y3, .slice a3 m3 c3] 27) = W3 at *
        generalize hB3 : w3.heap.size = B3 at *
        have hprb : Hid (∀ W, Below W3.heap.size W3 W → Calls Tryz.prog 14 #[.agg #[.int .i64 k3, .string n3, .int .i64 x3, .int .i64 y3, .slice a3 m3 c3]] W fun e w' => e = .returned (.string P) ∧ Below W.heap.size W w') := fun W h => hprX.out W _ _ _ _ _ _ _ (hb3w.trans (h.mono hb3w.size)) ((hVb.grow h).less.more fun b hb => hb.2)
        by_cases hsl : 1020 < s.size
        · have hsi : (1020 : Int) < (s.size : Int) := by omega
          clear hpb hprX hsm hBP hBB hsl
          go_wp2_with (first
            | (go_at_call 11; refine (hn0 _).mono ?_; rintro e wx ⟨rfl, hwx⟩; subst wx)
            | (go_at_call 10; refine hsa.mono ?_; clear hsa; rintro e w4 ⟨rfl, hb4⟩; clear z0 z1 z2 z3 z4; obtain ⟨z0, z1, z2, z3, z4⟩ := (hxb.grow hb4).cells; have hcp := hprb.out w4 hb4)
            | (go_at_call 14; refine hcp.mono ?_; clear hcp; rintro e w5 ⟨rfl, hb5⟩; have hb5 := hb4.trans (hb5.mono hb4.size); have hli := hlv.out _ (hb3w.trans (hb5.mono hb3w.size)))
            | (go_at_call 7; refine hli.mono ?_; clear hli; rintro e w6 ⟨rfl, hb6⟩))
          go_ret
          exact ⟨rfl, hb6⟩
        · have hsi : ¬ (1020 : Int) < (s.size : Int) := by omega
          have hss : s.size ≤ 1020 := by omega
          have hzz : (⟨#[32, 40]⟩ ++ s ++ ⟨#[41, 32]⟩ : ByteArray).size ≤ 1024 := by rw [ByteArray.size_append, ByteArray.size_append]; show 2 + s.size + 2 ≤ _; omega
          replace hzz : Hid _ := hzz
          have hpc : Hid (∀ W, Below W3.heap.size W3 W → _) := fun W h => hpb.out (⟨#[32, 40]⟩ ++ s ++ ⟨#[41, 32]⟩) W (hb3w.trans (h.mono hb3w.size)) (by have := hzz.out; omega)
          clear hsl
          go_wp2_with (first
            | (go_at_call 11; refine (hn0 _).mono ?_; rintro e wx ⟨rfl, hwx⟩; subst wx)
            | (go_at_call 10; refine hsa.mono ?_; clear hsa; rintro e w4 ⟨rfl, hb4⟩; clear z0 z1 z2 z3 z4; obtain ⟨z0, z1, z2, z3, z4⟩ := (hxb.grow hb4).cells; have hcp := hprb.out w4 hb4)
            | (go_at_call 14; refine hcp.mono ?_; clear hcp; rintro e w5 ⟨rfl, hb5⟩; have hb5 := hb4.trans (hb5.mono hb4.size); have hcc := hpc.out w5 hb5)
            | (go_at_call 8; refine hcc.mono ?_; clear hcc; rintro e w6 ⟨k6, n6, x6, y6, a6, m6, c6, er6, at6, rfl, h6, her6, hcase⟩; apply Hid.out))
          have hb6 : Below W3.heap.size W3 (w6.alloc (.cells #[.int .i64 k6, .string n6, .int .i64 x6, .int .i64 y6, .slice a6 m6 c6] 27)) := hb5.trans ((h6.out.1.trans ((bW0 w6 _).mono h6.out.1.size)).mono hb5.size)
          have hb6w := hb3w.trans (hb6.mono hb3w.size)
          unfold Hid
          clear hpb hpc hprX hprb
          rcases hcase with ⟨hne, hE⟩ | ⟨rfl, hok⟩
          · obtain rfl : er6 = 111 := hE.out.deep hzz.out hBB.out
            have hn111 : ∀ W : World, Calls Tryz.prog 11 #[.int .i64 111] W fun e w' => e = .returned (.int .i64 111) ∧ w' = W := fun W => lnum_any 111 W (by decide) (by decide)
            have hli := hlv.out _ hb6w
            clear hlv hsm hBP hBB hE
            go_wp2_with (first
              | (go_at_call 11; refine (hn111 _).mono ?_; rintro e wx ⟨rfl, hwx⟩; subst wx)
              | (go_at_call 7; refine hli.mono ?_; clear hli; rintro e w7 ⟨rfl, hb7⟩))
            go_ret
            exact ⟨rfl, hb7⟩
          · obtain ⟨_, Z, hZ, hVZ⟩ := hok.out
            obtain rfl : Z = Y := hZ.one hBB.out
            have hVc := hVZ.grow (bW0 w6 (.cells #[.int .i64 k6, .string n6, .int .i64 x6, .int .i64 y6, .slice a6 m6 c6] 27))
            have hVa6 := hVa3.grow hb6
            obtain ⟨p1, p2, p3, p4, p5⟩ := hVa3.parts
            obtain ⟨q1, q2, q3, q4, q5⟩ := hVc.parts
            obtain rfl : k6 = k3 := q1.trans p1.symm
            obtain rfl : n6 = n3 := q2.trans p2.symm
            obtain rfl : x6 = x3 := q3.trans p3.symm
            obtain rfl : y6 = y3 := q4.trans p4.symm
            obtain rfl : m6 = m3 := q5.trans p5.symm
            clear p1 p2 p3 p4 p5 q1 q2 q3 q4 q5 hVZ hok hZ h6 her6
            have hxc := bxNew w6 27 (.int .i64 k6) (.string n6) (.int .i64 x6) (.int .i64 y6) (.slice a6 m6 c6)
            have hxa6 := hxa.grow hb6
            clear x0 x1 x2 x3' x4 z0 z1 z2 z3 z4
            obtain ⟨x0, x1, x2, x3', x4⟩ := hxa6.cells
            obtain ⟨z0, z1, z2, z3, z4⟩ := hxc.cells
            have hsc := hsm.out _ _ _ _ _ _ _ _ _ _ _ _ hVa6 hVc
            generalize hW6 : w6.alloc (.cells #[.int .i64 k6, .string n6, .int .i64 x6, .int .i64 y6, .slice a6 m6 c6] 27) = W6 at *
            generalize hB6 : w6.heap.size = B6 at *
            clear hsm hBP hBB
            go_wp2_with (first
              | (go_at_call 11; refine (hn0 _).mono ?_; rintro e wx ⟨rfl, hwx⟩; subst wx)
              | (go_at_call 10; refine hsc.mono ?_; clear hsc; rintro e w7 ⟨rfl, hb7⟩; have hli := hlv.out _ (hb6w.trans (hb7.mono hb6w.size)))
              | (go_at_call 7; refine hli.mono ?_; clear hli; rintro e w8 ⟨rfl, hb8⟩))
            go_ret
            exact ⟨rfl, hb8⟩
/-! ### THE ROW's STEP -/
set_option maxRecDepth 100000 in
theorem lifted (os : Os) (started : os.Started) (H : Type) (enc : TypeId × Value → H) :
    ReturnsInHanded {} Tryz.checked os 5 .any (fun w args => (Rows.mathBackSpec.pre enc Tryz.prog Tryz.f5 [] false w args ∧ laidMetH Tryz.prog laidV w) ∧ sizedMet enc Tryz.prog Tryz.f5 (OpenSpec.ofChange Rows.mathBackSpec) false w args)
      (Rows.mathBackSpec.post enc Tryz.prog Tryz.f5 false true false false) := by
  refine wrap (C := Tryz.checked) (X := fun w _ => laidMetH Tryz.prog laidV w) (fun _ _ _ hh h => h.of_heap hh) own started (by kernel_rfl) Tryz.func5
    (ChangeSpec.witness_shaped (enc := enc) (C := Tryz.checked) (os := os) (X := fun w _ => laidMetH Tryz.prog laidV w) false (World.laidAll Tryz.prog os laidV) #[.string ⟨#[]⟩] 8 (World.laidAll_os _ _ _)
      (World.shaped_of_ZipB (by kernel_rfl) (by kernel_rfl)) (by kernel_rfl) (by kernel_rfl) (by kernel_rfl) (laidV_ok os _)) ?_
  intro W base args ds gs before hval0 hW _ hsz0 hL hsh
  have hG := G_of hL hsh
  have hval : ∀ (j : Nat) t v, Tryz.f5.params[j]? = some t → args[j]? = some v → Value.okWide Tryz.prog W .any base t v := hval0
  have hW' := hW
  obtain ⟨p, q, hA0, hV, rfl, _, _⟩ := hW
  have hA : DataW.TrodAll enc Tryz.prog W 0 (fun _ => true) true Tryz.f5.params.toList args.toList ds p := hA0
  rw [Tryz.params5] at hA hval
  obtain ⟨v0, vs0, d0, ds0, p0, q0, hargs, rfl, rfl, h0, r0⟩ := trodAll_cons hA
  obtain ⟨rfl, rfl, rfl⟩ := trodAll_nil r0
  obtain rfl : args = #[v0] := by cases args; simp_all
  obtain ⟨rfl, rfl⟩ := trodVars_none hV
  obtain ⟨a0, rfl, rfl, rfl, w0⟩ := open_string Tryz.underlying9 (hval 0 9 v0 rfl rfl) h0
  clear hA0 hval0 hL hsz0 hsh
  refine (walk a0 W hG w0).mono fun e W' ⟨he, bel⟩ => ?_
  subst he
  exact ⟨_, rfl, _, _, _, [], _, [], hW', trodAll_mk1 (shut_bool Tryz.underlying4 _), (trodAll_cons_mk (shut_string Tryz.underlying9 w0) trodAll_mk0), rfl, bel.frame _, fun h => by cases h⟩

theorem over : Rows.MathBackSaid :=
  OpenClaim.holds_of_wide 5 Tryz.f5 rfl rfl rfl rfl rfl rfl rfl ⟨rfl, rfl, rfl, rfl, rfl⟩ rfl rfl rfl rfl rfl (by kernel_rfl) Tryz.func5 (by kernel_rfl)
    (of_decide_eq_true (by kernel_rfl)) (by unfold Func.isWrapper; first | (rw [if_pos (by decide +kernel)]; kernel_rfl) | (rw [if_neg (by decide +kernel)]; exact ⟨rfl, rfl⟩))
    (fun os started H enc _ => lifted os started H enc)
end Go.Proofs.YtdhlfpgibfaimaaGreatDoor.mathBack
namespace Go.Proofs.YtdhlfpgibfaimaaGreatDoor
open Go
/-- The card. -/
theorem mathBack_card : Rows.MathBackCardSaid :=
  Claim7.holds_tied_plain_at .later [] [.data, .data, .data, .data, .sentinel, .sentinel, .data, .pinned] true (true, "08b122d2bf374064c7aac1b16d452358476b773a4757c5f710ffb27b7ff365df") true mathBack.over (fun _ h => by cases h) (by kernel_rfl) (fun _ h => by cases h) mathBack_row_tie rfl ⟨rfl, rfl⟩ (by kernel_rfl) rfl
    (fun f fn hf hfn => by
      obtain rfl : f = 5 := Option.some.inj ((show Tryz.prog.funcNamed "klaxon/klaxonlaw11.MathBack" = some 5 by kernel_rfl).symm.trans hf) |>.symm
      obtain rfl : fn = Tryz.f5 := (Option.some.inj (Tryz.func5.symm.trans hfn)).symm
      exact ⟨by kernel_rfl, fun j t ht => by
        rw [Tryz.params5] at ht
        have hm : t ∈ [9] := by simpa using Array.mem_of_getElem? ht
        have hall : ([9].all fun u => !Tryz.prog.wantsStandIn u) = true := by kernel_rfl
        exact (show Tryz.prog.wantsStandIn t = false by simpa using List.all_eq_true.1 hall t hm)⟩)
    (by kernel_rfl)
#print axioms mathBack_card
end Go.Proofs.YtdhlfpgibfaimaaGreatDoor
