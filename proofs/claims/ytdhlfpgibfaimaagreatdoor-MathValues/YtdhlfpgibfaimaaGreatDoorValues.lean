/- MathValues: of single values a tree comes to what value.Do comes to, operation by operation. Conditions: none beyond the row. -/
import Derived.Test.YtdhlfpgibfaimaaGreatDoorXbXf
import Derived.Test.YtdhlfpgibfaimaaGreatDoorTie
import Derived.Test.YtdhlfpgibfaimaaGreatDoorCards
import Derived.SevenTiedAt
import Derived.OpenShut
namespace Go.Proofs.YtdhlfpgibfaimaaGreatDoor.mathValues
open Go.ChangeShapes Go.WideShapes Go.ChangeAt Go.RowKit Go.Maps Go.ChangeMaps Go.MapKept
set_option linter.unusedVariables false
attribute [local go_sem ↓] Go.wp_at_zero Go.wp_at_succ
/-- What Parse tells, for a walk. -/
theorem par2 (s : ByteArray) (w : World) (hG : G w) (hS : SignsAt w) (hs : s.size ≤ 9223372036854775807) : Calls Tryz.prog 8 #[.string s] w fun e w' => ∃ (k : Int) (n : ByteArray) (x y : Int) (a : Option Addr) (m c : Nat) (er : Int) (at' : Nat), e = .returned (.tuple #[.agg #[.int .i64 k, .string n, .int .i64 x, .int .i64 y, .slice a m c], .int .i64 er, .int .i64 (at' : Int)]) ∧
    Hid (Below w.heap.size w w' ∧ at' ≤ s.size) ∧ Hid (-1000 ≤ er ∧ er ≤ 1000) ∧ (((er != 0) = true ∧ Hid (ErrT s er at')) ∨ (er = 0 ∧ Hid (s.size ≤ 1024 ∧ ∃ X, Whole (par := parC) s X ∧ ExV w' (fun b => w.heap.size ≤ b) X (.agg #[.int .i64 k, .string n, .int .i64 x, .int .i64 y, .slice a m c])))) := by
  refine (parse8 s w hG hS hs).mono ?_
  rintro e w' ⟨k, n, x, y, a, m, c, er, at', rfl, h⟩
  obtain ⟨hb, ha, ⟨h0, hE⟩ | ⟨rfl, h1, X, hX, hV⟩⟩ := h.out
  · refine ⟨k, n, x, y, a, m, c, er, at', rfl, ⟨hb, ha⟩, ?_, .inl ⟨bne_iff_ne.2 h0, hE⟩⟩
    rcases hE.in with rfl | rfl | rfl <;> exact ⟨by decide, by decide⟩
  · exact ⟨k, n, x, y, a, m, c, 0, at', rfl, ⟨hb, ha⟩, ⟨by decide, by decide⟩, .inr ⟨rfl, h1, X, hX, hV⟩⟩
set_option maxRecDepth 100000 in
set_option maxHeartbeats 16000000 in
theorem walk (s : ByteArray) (lv : Value) (VL : List Vl) (w : World) (hG : G w ∧ SignsAt w) (hs : s.size ≤ maxLen) (hL : Vls w lv VL) : Calls Tryz.prog 6 #[.string s, lv] w fun e w' => e = .returned (.bool true) ∧ Below w.heap.size w w' := by
  obtain ⟨hG, hS⟩ := hG
  unfold maxLen at hs
  obtain ⟨la, lc, rfl⟩ := hL.shape
  have hlv : Hid (∀ W, Below w.heap.size w W → Calls Tryz.prog 7 #[] W fun e w' => e = .returned (.bool true) ∧ Below w.heap.size w w') := fun W h => (live7 W (hG.grow h) (hS.grow h)).mono fun e w' g => ⟨g.1, h.trans (g.2.mono h.size)⟩
  by_cases h40 : 40 < VL.length
  · have h40i : (40 : Int) < (VL.length : Int) := by omega
    have hli := hlv.out w (Below.refl _ _)
    clear hlv h40
    generalize VL.length = LN at *
    go_enter Tryz.func6, Tryz.ntmps6
    go_wp2_with (first | (go_at_call 7; refine hli.mono ?_; clear hli; rintro e w2 ⟨rfl, hb2⟩))
    go_ret
    exact ⟨rfl, hb2⟩
  have h40i : ¬ (40 : Int) < (VL.length : Int) := by omega
  have hch := rcheck_any _ VL w hL (by omega)
  by_cases hck : chkE VL = 0
  case neg =>
    have hne : (chkE VL != 0) = true := bne_iff_ne.2 hck
    clear h40 hck hL
    generalize chkE VL = CE at *
    generalize VL.length = LN at *
    go_enter Tryz.func6, Tryz.ntmps6
    go_wp2_with (first
      | (go_at_call 23; refine hch.mono ?_; clear hch; rintro e w1 ⟨rfl, hb1⟩; have hli := hlv.out w1 hb1)
      | (go_at_call 7; refine hli.mono ?_; clear hli; rintro e w2 ⟨rfl, hb2⟩))
    go_ret
    exact ⟨rfl, hb2⟩
  case pos =>
    rw [hck] at hch
    have hVV : Hid (∀ v ∈ VL, IsV v) := by
      show ∀ v ∈ VL, IsV v
      unfold chkE at hck
      by_cases h : ∀ v ∈ VL, IsV v
      · exact h
      · rw [if_neg h] at hck; omega
    clear hck
    by_cases h300 : 300 < s.size
    · have h300i : (300 : Int) < (s.size : Int) := by omega
      clear h40 h300 hL hVV
      generalize VL.length = LN at *
      go_enter Tryz.func6, Tryz.ntmps6
      go_wp2_with (first
        | (go_at_call 23; refine hch.mono ?_; clear hch; rintro e w1 ⟨rfl, hb1⟩; have hli := hlv.out w1 hb1)
        | (go_at_call 7; refine hli.mono ?_; clear hli; rintro e w2 ⟨rfl, hb2⟩))
      go_ret
      exact ⟨rfl, hb2⟩
    · have h300i : ¬ (300 : Int) < (s.size : Int) := by omega
      have hpa : Hid (∀ W, Below w.heap.size w W → _) := fun W h => par2 s W (hG.grow h) (hS.grow h) (by omega)
      have hLg : Hid (∀ W, Below w.heap.size w W → Vls W (.slice la VL.length lc) VL) := fun W h => hL.grow h
      have hVl : Hid (VL.length ≤ 40) := by show _ ≤ _; omega
      have hs300 : Hid (s.size ≤ 300) := by show _ ≤ _; omega
      obtain ⟨LN, hLN⟩ : ∃ LN, Hid (LN = VL.length) := ⟨_, rfl⟩
      rw [← hLN.out] at hLg h40i ⊢ hch
      have hLN40 : LN ≤ 40 := by rw [hLN.out]; exact hVl.out
      clear h40 h300 hL
      go_enter Tryz.func6, Tryz.ntmps6
      go_wp2_with (first
        | (go_at_call 23; refine hch.mono ?_; clear hch; rintro e w0 ⟨rfl, hb0⟩; have hcp := hpa.out w0 hb0)
        | (go_at_call 8; refine hcp.mono ?_; clear hcp hpa; rintro e w1 ⟨k, n, x, y, a, m, c, er, at1, rfl, h1, her, hcase⟩; apply Hid.out))
      have hb1 : Below w.heap.size w (w1.alloc (.cells #[.int .i64 k, .string n, .int .i64 x, .int .i64 y, .slice a m c] 27)) := hb0.trans ((h1.out.1.trans ((bW0 w1 _).mono h1.out.1.size)).mono hb0.size)
      have hn1 : ∀ W : World, Calls Tryz.prog 11 #[.int .i64 er] W fun e w' => e = .returned (.int .i64 er) ∧ w' = W := fun W => lnum_any er W her.out.1 her.out.2
      unfold Hid
      rcases hcase with ⟨hne, hE⟩ | ⟨rfl, hok⟩
      · have hli := hlv.out _ hb1
        clear hlv hE
        go_wp2_with (first
          | (go_at_call 11; refine (hn1 _).mono ?_; rintro e wx ⟨rfl, hwx⟩; subst wx)
          | (go_at_call 7; refine hli.mono ?_; clear hli; rintro e w2 ⟨rfl, hb2⟩))
        go_ret
        exact ⟨rfl, hb2⟩
      · obtain ⟨hs1, X, hX, hV⟩ := hok.out
        have hXn := hX.nodes
        have hWF := hXn.2
        have hrl : (refsE X).length ≤ 300 := by have := refs_few hWF; have := hs300.out; omega
        have hrr : (refsR X).length ≤ 300 := by have := refsR_len X; omega
        have hbx := bxNew w1 27 (.int .i64 k) (.string n) (.int .i64 x) (.int .i64 y) (.slice a m c)
        have hVa := (hV.grow (bW0 w1 (.cells #[.int .i64 k, .string n, .int .i64 x, .int .i64 y, .slice a m c] 27))).less.more (A' := fun b => b < (w1.alloc (.cells #[.int .i64 k, .string n, .int .i64 x, .int .i64 y, .slice a m c] 27)).heap.size) fun b hb => hb.2
        have hrf := refs17 _ hWF (by omega) k n x y a m c hVa
        generalize hW1 : w1.alloc (.cells #[.int .i64 k, .string n, .int .i64 x, .int .i64 y, .slice a m c] 27) = W1 at *
        generalize hBX : w1.heap.size = BX at *
        obtain ⟨x0, x1, x2, x3, x4⟩ := hbx.cells
        have hn0 : ∀ W : World, Calls Tryz.prog 11 #[.int .i64 0] W fun e w' => e = .returned (.int .i64 0) ∧ w' = W := fun W => lnum_any 0 W (by decide) (by decide)
        clear hn1 her h1 hX hXn hV hok
        go_wp2_with (first
          | (go_at_call 11; refine (hn0 _).mono ?_; rintro e wx ⟨rfl, hwx⟩; subst wx)
          | (go_at_call 17; refine hrf.mono ?_; clear hrf; rintro e w2 ⟨na, nn, nc, rfl, h2⟩; apply Hid.out))
        have hb2 := h2.out.2
        have hN2 := h2.out.1
        have hnn : nn = (refsR X).length := hN2.len
        have hnn300 : nn ≤ 300 := by omega
        unfold Hid
        by_cases hgt : LN < nn
        · have hgti : (LN : Int) < (nn : Int) := by omega
          have hli := hlv.out _ (hb1.trans (hb2.mono hb1.size))
          clear hlv hgt hnn hN2 h2
          go_wp2_with (first | (go_at_call 7; refine hli.mono ?_; clear hli; rintro e w3 ⟨rfl, hb3⟩))
          go_ret
          exact ⟨rfl, hb3⟩
        · have hgti : ¬ (LN : Int) < (nn : Int) := by omega
          obtain ⟨V, v, hT, hvv, hEv, hLook⟩ := vals_of hWF hVV.out (by rw [← hnn, ← hLN.out]; omega)
          have hbw2 := hb1.trans (hb2.mono hb1.size)
          have hL2 := hLg.out w2 hbw2
          have hNx : Hid (∀ j, j < nn → ∃ b o, na = some ⟨b, o, none⟩ ∧ w2.cell? ⟨b, o + j, none⟩ = some (.string ((refsR X).getD j ⟨#[]⟩))) := fun j hj => tx_at hN2 j (by rw [← hnn]; exact hj)
          have hVx : Hid (∀ j, j < LN → ∃ b o, la = some ⟨b, o, none⟩ ∧ VAt w2 b (o + j * 2) (VL.getD j zer)) := fun j hj => by
            obtain ⟨a', c', h1, h2⟩ := hL2
            injection h1 with h1 h3 h4
            subst h1
            rcases h2 with h2 | ⟨b, o, h2, h5⟩
            · subst h2; have := hLN.out; simp at this; omega
            · exact ⟨b, o, h2, h5 j (by rw [← hLN.out]; exact hj)⟩
          have hxa := hbx.grow hb2
          have hVa2 := hVa.grow hb2
          have hEvl : Hid (∀ W fa fn fc, Below w2.heap.size w2 W → FrsV W fa fn (frL (refsR X) VL (refsR X).length) → fn = nn → Calls Tryz.prog 20 #[.agg #[.int .i64 k, .string n, .int .i64 x, .int .i64 y, .slice a m c], .slice fa fn fc] W fun e w' => Told W [⟨[], v⟩] 0 e w') := fun W fa fn fc h1 h2 h3 => eval20 hWF W _ fa fn fc _ k n x y a m c _ 0 (by omega) h2 (frL_few _ _ _) (hVa2.grow h1) hEv
          have hVal : Hid (∀ W, Below w2.heap.size w2 W → Calls Tryz.prog 25 #[.agg #[.int .i64 k, .string n, .int .i64 x, .int .i64 y, .slice a m c], .slice na nn nc, .slice la LN lc] W fun e w' => e = .returned (.tuple #[.agg #[.int .i64 v.kind, .int .i64 v.n], .bool true]) ∧ Below W.heap.size W w') := fun W h => value25 hWF W _ (refsR X) VL na nn nc la LN lc V v k n x y a m c (hN2.grow h) (hL2.grow h) (by rw [← hnn, ← hLN.out]; omega) (by have := hVl.out; omega) (hVa2.grow h) hT hLook
          have hnnl : Hid (nn = (refsR X).length) := hnn
          clear x0 x1 x2 x3 x4 hVV hLook hEv hT hvv hVa hVa2 hbx hrr hrl hWF hN2 h2 hL2 hLg hVl hs300 hnn hgt hLN
          generalize refsR X = NL at *
          go_wp2
          go_loopw [9, 10] (fun e i wr => ∃ (kk : Nat) (fa : Option Addr) (fn fc : Nat) (fs : List Fe), kk ≤ nn ∧ i = .int .i64 kk ∧ e = .slice fa fn fc ∧ Hid (FrI wr w2.heap.size e NL VL fs kk) ∧ Hid (Below w2.heap.size w2 wr)) (fun _ i _ => nn - (intOf i).toNat)
          case atStart => exact ⟨0, none, 0, 0, [], Nat.zero_le _, rfl, rfl, ⟨OwnS.nil _ _, rfl, fun i hi => absurd hi (by omega)⟩, Below.refl _ _⟩
          case round =>
            obtain ⟨kk, fa, fn, fc, fs, hkk, rfl, rfl, hF, hbr⟩ := hrel
            by_cases hlt : kk < nn
            · have hki : (kk : Int) < (nn : Int) := by omega
              have hki2 : (kk : Int) < (LN : Int) := by omega
              obtain ⟨nb, no, hna, hcn⟩ := hNx.out kk hlt
              obtain ⟨lb, lo, hla, hcv⟩ := hVx.out kk (by omega)
              subst hna hla
              obtain ⟨nm, hnm⟩ : ∃ nm, Hid (nm = NL.getD kk ⟨#[]⟩) := ⟨_, rfl⟩
              obtain ⟨R, hR⟩ : ∃ R, Hid (R = VL.getD kk zer) := ⟨_, rfl⟩
              rw [← hnm.out] at hcn
              rw [← hR.out] at hcv
              have hcl : Hid (∀ W, Below w2.heap.size w2 W → W.cell? ⟨nb, no + kk, none⟩ = some (.string nm) ∧ W.cell? ⟨lb, lo + kk * 2, none⟩ = some (.int .i64 R.kind) ∧ W.cell? ⟨lb, lo + kk * 2 + 1, none⟩ = some (.int .i64 R.n)) := fun W h => ⟨(h.cell (p := ⟨nb, no + kk, none⟩) (World.block_lt_of_cell? _ _ hcn)).trans hcn, (h.cell (p := ⟨lb, lo + kk * 2, none⟩) (World.block_lt_of_cell? _ _ hcv.1)).trans hcv.1, (h.cell (p := ⟨lb, lo + kk * 2 + 1, none⟩) (World.block_lt_of_cell? _ _ hcv.2)).trans hcv.2⟩
              have hfl := hF.out.2.1
              have hlen : fs.length + 1 ≤ 1000000000 := by omega
              have hB := (Below.refl wr.heap.size wr).drew
              obtain ⟨g0, g1, g2⟩ := hcl.out wr hbr.out
              have hsc := fun W => scal24 R W
              clear hfl hcn hcv
              go_wp2
              go_region_held3 (fun W => W.cell? ⟨nb, no + kk, none⟩ = some (.string nm) ∧ W.cell? ⟨lb, lo + kk * 2, none⟩ = some (.int .i64 R.kind) ∧ W.cell? ⟨lb, lo + kk * 2 + 1, none⟩ = some (.int .i64 R.n)) (first | exact ⟨g0, g1, g2⟩ | go_keep) (first
                | (go_at_call 24; refine (hsc _).mono ?_; rintro e w4 ⟨sb, rfl, h4⟩; have hB4 := hB.trans (h4.out.2.mono hB.size); have hb4 := hbr.out.trans (hB4.mono hbr.out.size); obtain ⟨g0, g1, g2⟩ := hcl.out w4 hb4; have ho5 := (hF.out.1.stay hB4).alloc (.cells #[.string nm, .slice (some ⟨sb, 0, none⟩) 1 1] 54); have hs5 := sls_one (E := encF) w4 ⟨nm, some ⟨sb, 0, none⟩, 1, 1⟩ #[.string nm, .slice (some ⟨sb, 0, none⟩) 1 1] 54 rfl; have hB5 : w2.heap.size ≤ (w4.alloc (.cells #[.string nm, .slice (some ⟨sb, 0, none⟩) 1 1] 54)).heap.size := by rw [World.size_alloc]; have := hb4.size; omega)
                | (refine stepR TF rfl (.tmp 53) (.tmp 64) rfl w2.heap.size _ _ _ _ fs [⟨nm, some ⟨sb, 0, none⟩, 1, 1⟩] rfl rfl ho5 hs5 hB5 hlen ?_; intro v8 w8 ho8 hg8; have hb8 : Below w2.heap.size w2 w8 := (hb4.alloc hb4.size (.cells #[.string nm, .slice (some ⟨sb, 0, none⟩) 1 1] 54)).trans (ho5.grows hB5 hg8); obtain ⟨g0, g1, g2⟩ := hcl.out w8 hb8))
              have hF8 : Hid (∃ fs', FrI w8 w2.heap.size v8 NL VL fs' (kk + 1)) := by
                refine ⟨_, hF.out.more hB4 (b := sb) (by rw [← hR.out]; exact h4.out.1) _ ?_ hg8⟩
                rw [← hnm.out]
                exact ho8
              obtain ⟨a8, c8, hv8⟩ := ho8.shape
              obtain ⟨n8, hn8⟩ : ∃ n8, n8 = (fs ++ [(⟨nm, some ⟨sb, 0, none⟩, 1, 1⟩ : Fe)]).length := ⟨_, rfl⟩
              rw [← hn8] at hv8
              subst hv8
              clear hn8
              go_wp2
              go_roundw
              case rel =>
                obtain ⟨fs', h9⟩ := hF8.out
                exact ⟨kk + 1, a8, n8, c8, fs', by omega, by go_num, rfl, h9, hb8⟩
              case measure => simp [intOf]; omega
            · have hkn : kk = nn := by omega
              obtain ⟨hfn, hfv⟩ := hF.out.frs
              have hki : ¬ (kk : Int) < (nn : Int) := by omega
              have hca := hEvl.out wr fa fn fc hbr.out (by rw [← hnnl.out, ← hkn]; exact hfv) (by omega)
              obtain ⟨x0, x1, x2, x3, x4⟩ := (hxa.grow hbr.out).cells
              have hbxx : Hid (∀ W, Below w2.heap.size w2 W → Bx W BX 27 (.int .i64 k) (.string n) (.int .i64 x) (.int .i64 y) (.slice a m c)) := fun W h => hxa.grow h
              have hsam : Hid (∀ W6 a5 n5 c5 W sb, IsSer W6 a5 n5 c5 [⟨[], v⟩] → Below W6.heap.size W6 W → ScB W sb v → Calls Tryz.prog 22 #[.slice a5 n5 c5, .slice (some ⟨sb, 0, none⟩) 1 1] W fun e w' => e = .returned (.bool true) ∧ Below W.heap.size W w') := fun W6 a5 n5 c5 W sb h1 h2 h3 => sameG (h1.grow h2) h3.ser (Few.scal _)
              have hsc := fun W => scal24 v W
              clear hfv hfn hkn hEvl hNx hVx hF hnnl
              go_wp2_with (first
                | (go_at_call 20; refine hca.mono ?_; clear hca; rintro e w5 ⟨a5, n5, c5, rfl, h5⟩; have hb5 := hbr.out.trans (h5.out.2.mono hbr.out.size); clear x0 x1 x2 x3 x4; obtain ⟨x0, x1, x2, x3, x4⟩ := (hbxx.out w5 hb5).cells; have hcv := hVal.out w5 hb5)
                | (go_at_call 25; refine hcv.mono ?_; clear hcv; rintro e w6 ⟨rfl, hb6⟩; have hb6' := hb6.trans ((bW0 w6 (.cells #[.int .i64 v.kind, .int .i64 v.n] 24)).mono hb6.size))
                | (go_at_call 11; refine (hn0 _).mono ?_; rintro e wx ⟨rfl, hwx⟩; subst wx)
                | (go_at_call 24; refine (hsc _).mono ?_; rintro e w7 ⟨sb, rfl, h7⟩; have hb7 := hb6'.trans (h7.out.2.mono hb6'.size); have hcs := hsam.out w5 a5 n5 c5 w7 sb h5.out.1 hb7 h7.out.1)
                | (go_at_call 22; refine hcs.mono ?_; clear hcs; rintro e w8 ⟨rfl, hb8⟩; have hb8 := hb7.trans (hb8.mono hb7.size); have hb9 := hb5.trans (hb8.mono hb5.size); have hli := hlv.out w8 (hbw2.trans (hb9.mono hbw2.size)))
                | (go_at_call 7; refine hli.mono ?_; clear hli; rintro e w9 ⟨rfl, hb10⟩))
              go_ret
              exact ⟨rfl, hb10⟩
/-! ### THE ROW's STEP -/
set_option maxRecDepth 100000 in
theorem lifted (os : Os) (started : os.Started) (H : Type) (enc : TypeId × Value → H) :
    ReturnsInHanded {} Tryz.checked os 6 .any (fun w args => (Rows.mathValuesSpec.pre enc Tryz.prog Tryz.f6 [] false w args ∧ laidMetH Tryz.prog laidV w) ∧ sizedMet enc Tryz.prog Tryz.f6 (OpenSpec.ofChange Rows.mathValuesSpec) false w args)
      (Rows.mathValuesSpec.post enc Tryz.prog Tryz.f6 false true false false) := by
  refine wrap (C := Tryz.checked) (X := fun w _ => laidMetH Tryz.prog laidV w) (fun _ _ _ hh h => h.of_heap hh) own started (by kernel_rfl) Tryz.func6
    (ChangeSpec.witness_shaped (enc := enc) (C := Tryz.checked) (os := os) (X := fun w _ => laidMetH Tryz.prog laidV w) false (World.laidAll Tryz.prog os laidV) #[.string ⟨#[]⟩, .slice none 0 0] 8 (World.laidAll_os _ _ _)
      (World.shaped_of_ZipB (by kernel_rfl) (by kernel_rfl)) (by kernel_rfl) (by kernel_rfl) (by kernel_rfl) (laidV_ok os _)) ?_
  intro W base args ds gs before hval0 hW _ hsz0 hL hsh
  have hG := G_of hL hsh
  have hval : ∀ (j : Nat) t v, Tryz.f6.params[j]? = some t → args[j]? = some v → Value.okWide Tryz.prog W .any base t v := hval0
  have hW' := hW
  obtain ⟨p, q, hA0, hV, rfl, _, _⟩ := hW
  have hA : DataW.TrodAll enc Tryz.prog W 0 (fun _ => true) true Tryz.f6.params.toList args.toList ds p := hA0
  rw [Tryz.params6] at hA hval
  obtain ⟨v0, vs0, d0, ds0, p0, q0, hargs, rfl, rfl, h0, r0⟩ := trodAll_cons hA
  obtain ⟨v1, vs1, d1, ds1, p1, q1, rfl, rfl, rfl, h1, r1⟩ := trodAll_cons r0
  obtain ⟨rfl, rfl, rfl⟩ := trodAll_nil r1
  obtain rfl : args = #[v0, v1] := by cases args; simp_all
  obtain ⟨rfl, rfl⟩ := trodVars_none hV
  obtain ⟨a0, rfl, rfl, rfl, w0⟩ := open_string Tryz.underlying9 (hval 0 9 v0 rfl rfl) h0
  obtain ⟨a1, len1, cap1, rfl⟩ := okWide_slice Tryz.underlying50 (hval 1 50 v1 rfl rfl)
  have k1 := h1
  have lt1 : ∀ x ∈ p1, x.block < W.heap.size := by obtain ⟨m, hm⟩ := k1; exact DataW.trod_lt m _ _ _ hm
  obtain ⟨l1, hl1⟩ : ∃ l, Vls W (.slice a1 len1 cap1) l := by
    obtain ⟨fuel, hf⟩ := h1
    exact vals_of_trod hf
  clear hA0 hval0 hL hsz0 hsh
  refine (walk a0 (.slice a1 len1 cap1) l1 W hG w0 hl1).mono fun e W' ⟨he, bel⟩ => ?_
  subst he
  exact ⟨_, rfl, _, _, _, [], _, [], hW', trodAll_mk1 (shut_bool Tryz.underlying4 _), (trodAll_cons_mk (shut_string Tryz.underlying9 w0) (trodAll_cons_mk (Below.trod laidOut (by kernel_rfl) (of_decide_eq_true (by kernel_rfl)) k1 bel lt1) trodAll_mk0)), rfl, bel.frame _, fun h => by cases h⟩

theorem over : Rows.MathValuesSaid :=
  OpenClaim.holds_of_wide 6 Tryz.f6 rfl rfl rfl rfl rfl rfl rfl ⟨rfl, rfl, rfl, rfl, rfl⟩ rfl rfl rfl rfl rfl (by kernel_rfl) Tryz.func6 (by kernel_rfl)
    (of_decide_eq_true (by kernel_rfl)) (by unfold Func.isWrapper; first | (rw [if_pos (by decide +kernel)]; kernel_rfl) | (rw [if_neg (by decide +kernel)]; exact ⟨rfl, rfl⟩))
    (fun os started H enc _ => lifted os started H enc)
end Go.Proofs.YtdhlfpgibfaimaaGreatDoor.mathValues
namespace Go.Proofs.YtdhlfpgibfaimaaGreatDoor
open Go
/-- The card. -/
theorem mathValues_card : Rows.MathValuesCardSaid :=
  Claim7.holds_tied_plain_at .later [] [.data, .data, .data, .data, .sentinel, .sentinel, .data, .pinned] true (true, "08b122d2bf374064c7aac1b16d452358476b773a4757c5f710ffb27b7ff365df") true mathValues.over (fun _ h => by cases h) (by kernel_rfl) (fun _ h => by cases h) mathValues_row_tie rfl ⟨rfl, rfl⟩ (by kernel_rfl) rfl
    (fun f fn hf hfn => by
      obtain rfl : f = 6 := Option.some.inj ((show Tryz.prog.funcNamed "klaxon/klaxonlaw11.MathValues" = some 6 by kernel_rfl).symm.trans hf) |>.symm
      obtain rfl : fn = Tryz.f6 := (Option.some.inj (Tryz.func6.symm.trans hfn)).symm
      exact ⟨by kernel_rfl, fun j t ht => by
        rw [Tryz.params6] at ht
        have hm : t ∈ [9, 50] := by simpa using Array.mem_of_getElem? ht
        have hall : ([9, 50].all fun u => !Tryz.prog.wantsStandIn u) = true := by kernel_rfl
        exact (show Tryz.prog.wantsStandIn t = false by simpa using List.all_eq_true.1 hall t hm)⟩)
    (by kernel_rfl)
#print axioms mathValues_card
end Go.Proofs.YtdhlfpgibfaimaaGreatDoor
