/- The document's parser: prim, where there is no error yet. -/
import Derived.Test.YtaffplmfnincfaaGreatDoorZaZl
namespace Go.Proofs.YtaffplmfnincfaaGreatDoor
set_option linter.unusedVariables false
open Go.RowKit
set_option maxRecDepth 100000 in
set_option maxHeartbeats 16000000 in
/-- prim, where there is none. -/
theorem primO {s : ByteArray} {d : Nat} (hs : s.size ≤ 1024) (hd32 : d ≤ 32) (hE : JD 50 (d + 1) s (Job.op 0 (d + 1))) (hV : ParC) (hN1 : ValC 82 nul) (hN2 : ValC 83 nan) (hN3 : ValC 40 pls) (W : World) (p i : Nat) (t : Int) (hp : RpT W p s i 0 t) (hi : i ≤ s.size) (hnsg : sgT s (skipB s i) ∉ [(⟨#[45]⟩ : ByteArray), ⟨#[33]⟩]) : Calls Tryz.prog 198 #[.pointer (some ⟨p, 0, none⟩), .int .i64 (d : Int)] W fun r w' => JdQ (Job.od d) s p i 0 W r w' := by
  have hb := bW0 W zE
  have hpl := hp.lt
  have hbl := blanks_any _ p s i 0 t (hp.grow hb) hi (by omega)
  have htk : Hid (∀ W2 j2 e2 t2, RpT W2 p s j2 e2 t2 → j2 ≤ s.size → p < W2.heap.size → Calls Tryz.prog 70 #[.pointer (some ⟨p, 0, none⟩), .slice (some ⟨W2.heap.size, 0, none⟩) 1 1] (W2.alloc (.cells #[.string ⟨#[40]⟩] 9)) fun r w' => TkQ [⟨#[40]⟩] s p j2 e2 t2 (W2.alloc (.cells #[.string ⟨#[40]⟩] 9)) r w') := fun W2 j2 e2 t2 h1 h2 h3 => take64 _ p s j2 e2 t2 (h1.grow (bW0 _ _)) h2 (by omega) W2.heap.size 1 [⟨#[40]⟩] rfl (strL_new W2 [⟨#[40]⟩] (by decide)) (by omega) (by omega) (by decide)
  have hz : Hid (∀ w3, Fp p (W.alloc zE) w3 → Bx w3 W.heap.size 62 (.int .i64 0) (.string ⟨#[]⟩) (.int .i64 0) (.int .i64 0) (.slice none 0 0)) := fun w3 h => (bxNew W 62 _ _ _ _ _).fp h (by omega)
  have hE2 : ∀ W2 j2 e2 t2, RpT W2 p s j2 e2 t2 → j2 ≤ s.size → Calls Tryz.prog 50 #[.pointer (some ⟨p, 0, none⟩), .int .i64 ((d : Int) + 1)] W2 fun r w' => JdQ (Job.op 0 (d + 1)) s p j2 e2 W2 r w' := fun W2 j2 e2 t2 h1 h2 => hE W2 p j2 e2 t2 h1 h2
  have hfl : Hid (∀ W2 j2 t2 at', RpT W2 p s j2 0 t2 → Calls Tryz.prog 52 #[.pointer (some ⟨p, 0, none⟩), .int .i64 110, .int .i64 at'] W2 fun r w' => r = .returned (.tuple #[]) ∧ Hid (Fp p W2 w' ∧ ∃ t', RpT w' p s j2 110 t')) := fun W2 j2 t2 at' g => (fail_any W2 p s j2 0 t2 110 at' g).mono fun r w' h => ⟨h.1, by
    obtain ⟨h1, e', t', h2, _, h3⟩ := h.2.out
    rw [h3 rfl] at h2
    exact ⟨h1, t', h2⟩⟩
  have hmu : Hid (∀ W2 j2 e2 t2 (u : ByteArray), u.size ≤ 1000 → u ≠ ⟨#[]⟩ → RpT W2 p s j2 e2 t2 → j2 ≤ s.size → Calls Tryz.prog 212 #[.pointer (some ⟨p, 0, none⟩), .string u] W2 fun r w' => StQ u s p j2 e2 W2 r w') := fun W2 j2 e2 t2 u h0 h9 h1 h2 => must272 W2 p s j2 e2 t2 h1 h2 (by omega) u (by omega) h9
  have hcl := fun (nm : ByteArray) (b : Nat) W2 => rcall_any nm (some ⟨b, 0, none⟩) 1 1 W2
  replace hnsg : Hid _ := hnsg
  have hd : d ≤ 100 := by omega
  replace hd32 : Hid (d ≤ 32) := hd32
  clear hb hp hE
  go_enter Tryz.func198, Tryz.ntmps198
  go_wp2_with (first
    | (go_at_call 51; refine hbl.mono ?_; clear hbl; rintro r wb ⟨rfl, i1, hi1, hi2, hpb, hfb, his⟩; obtain ⟨c0, c1, c2, c3⟩ := hpb.out.cells; have htj := htk.out wb i1 0 t hpb.out hi2 hpb.out.lt)
    | (go_at_call 70; refine htj.mono ?_; clear htj htk c0 c1 c2 c3; rintro r w2 ⟨v, j2, rfl, hjj, hj2, hp2, hf2, hv⟩; apply Hid.out))
  have hf3 : Hid (Fp p (W.alloc zE) w2) := (hfb.out.trans (Fp.of (bW0 wb (.cells #[.string ⟨#[40]⟩] 9)))).trans hf2.out
  have hs3 : W.heap.size < w2.heap.size := by have := hf3.out.size; have h9 := szE W; omega
  have hpl2 := hp2.out.lt
  obtain ⟨c0, c1, c2, c3⟩ := hp2.out.cells
  unfold Hid
  clear hfb hf2 hpb
  rcases hv with ⟨rfl, hv⟩ | ⟨k1, k2, k3⟩
  case inr =>
    have hc := hE2 w2 j2 0 t hp2.out hj2
    go_wp2_with (first
      | (go_at_call 50; refine hc.mono ?_; clear hc; rintro r w3 ⟨k5, n5, x5, y5, a5, m5, c5, rfl, j5, e5, t5, X5, h5⟩; have hb5 := bW0 w3 (.cells #[.int .i64 k5, .string n5, .int .i64 x5, .int .i64 y5, .slice a5 m5 c5] 62); have hm5 := hmu.out _ j5 e5 t5 ⟨#[41]⟩ (by decide) (by decide) (h5.out.rp.grow hb5) h5.out.le)
      | (go_at_call 212; refine hm5.mono ?_; clear hm5; rintro r w4 ⟨rfl, j6, e6, t6, hj6, hl6, hp6, hf6, he6, hm6⟩; have hsz := h5.out.fp.size; obtain ⟨g0, g1, g2, g3, g4⟩ := ((bxNew w3 62 (.int .i64 k5) (.string n5) (.int .i64 x5) (.int .i64 y5) (.slice a5 m5 c5)).fp hf6.out (by omega)).cells; have hfz := hf3.out.trans (h5.out.fp.trans ((Fp.of hb5).trans hf6.out)); obtain ⟨z0, z1, z2, z3, z4⟩ := (hz.out w4 hfz).cells; obtain ⟨f0, f1, f2, f3, f4⟩ := (hz.out w4 hfz).frozen))
    have hdn := jd_out (Jb := Job.od d) (i := i) (e := 0) hpl hfz hp6.out (by have := h5.out.ge; omega) hl6 (fun q => absurd rfl q) (((h5.out.v.more (A' := fun b => W.heap.size < b) fun b hb => by omega).grow hb5).fp hf6.out (fun b hb => by omega)) (by
      have hs := his.out
      have h1 := k3.out.2.2.1
      have h2 := k3.out.2.2.2.1
      have h3 := List.mem_singleton.1 k3.out.2.1
      rw [hs, skip_idem] at h1 h2
      rw [h3] at h1 h2
      exact JobR.paren hd32.out h1 h2 h5.out.we hm6.out he6.out)
    exact ret27 Tryz.results198 rfl hdn.1 ⟨_, _, _, _, _, _, _, rfl, _, _, _, _, hdn.2⟩
  case inl =>
    by_cases hat : i1 < s.size
    case neg =>
      have hati : (s.size : Int) ≤ (i1 : Int) := by omega
      have hno : Hid (opens (tokAt parC s (skipB s i)) = false) := by
        show _ = _
        rw [← his.out]
        exact opens_end (by omega)
      have hfj := hfl.out w2 j2 t (i1 : Int) hp2.out
      go_wp2_with (first | (go_at_call 52; refine hfj.mono ?_; clear hfj; rintro r w4 ⟨rfl, hA⟩; obtain ⟨hf4, t4, hp4⟩ := hA.out; obtain ⟨z0, z1, z2, z3, z4⟩ := (hz.out w4 (hf3.out.trans hf4)).cells; obtain ⟨f0, f1, f2, f3, f4⟩ := (hz.out w4 (hf3.out.trans hf4)).frozen))
      have hdn := jd_out (Jb := Job.od d) (i := i) (e := 0) hpl (hf3.out.trans hf4) hp4 (by omega) hj2 (fun q => absurd rfl q) (exZ_V _ _) (JobR.no hno.out (by decide))
      exact ret27 Tryz.results198 rfl hdn.1 ⟨_, _, _, _, _, _, _, rfl, _, _, _, _, hdn.2⟩
    case pos =>
      have hati : ¬ (s.size : Int) ≤ (i1 : Int) := by omega
      have hati2 : (i1 : Int) < (s.size : Int) := by omega
      have hDc := digit78 ((((s[i1]'hat).toNat : Nat) : Int))
      have hLc := letter77 ((((s[i1]'hat).toNat : Nat) : Int))
      have hgt0 := byteAt_get s i1 hat
      have hg1 : Hid ((((s[i1]'hat).toNat : Nat) : Int) = byteAt s i1) := hgt0
      clear hgt0
      have hvg : Hid (sgT s i1 ∉ [(⟨#[40]⟩ : ByteArray)]) := by
        have := hv.out.2 (by simp)
        rw [his.out, skip_idem] at this
        rw [his.out]
        exact this
      cases hdg : digB ((((s[i1]'hat).toNat : Nat) : Int)) with
      | true =>
        rw [hdg] at hDc
        have hd0 : Hid (isDig (byteAt s i1) = true) := by
          show _ = _
          rw [← hg1.out, dig_is]
          exact hdg
        have hJn : Hid (∀ K v, i1 ≤ K → K ≤ s.size → numSize (s.extract i1 s.size) = K - i1 → parC (s.extract i1 K) = some v → JobR s (Job.od d) i K 0 0 (exN v)) := fun K v h1 h2 h3 h4 => by
          have hs := his.out
          have h0 := hd0.out
          have ha := hat
          rw [hs] at h0 h1 h3 h4 ha
          exact JobR.num hd32.out ha h1 h2 h0 h3 h4
        have hJo : Hid (∀ K X, i1 ≤ K → K ≤ s.size → numSize (s.extract i1 s.size) = K - i1 → parC (s.extract i1 K) = none → JobR s (Job.od d) i K 0 110 X) := fun K X h1 h2 h3 h4 => by
          have hs := his.out
          have h0 := hd0.out
          have ha := hat
          rw [hs] at h0 h1 h3 h4 ha
          exact JobR.no (num_no ha h1 h2 h0 h3 h4) (by decide)
        clear hdg hLc hg1 hvg hv
        go_wp2_with (first | (go_at_call 78; refine (hDc _).mono ?_; rintro r wx ⟨rfl, hwx⟩; subst wx))
        clear hDc
        go_loop [8] (fun v => ∃ k : Nat, i1 ≤ k ∧ k ≤ s.size ∧ v = .int .i64 k ∧ Hid (∀ q, i1 ≤ q → q < k → isDig (byteAt s q) = true)) (fun v => s.size - (intOf v).toNat)
        case atStart => exact ⟨i1, Nat.le_refl _, by omega, by go_num, fun q h1 h2 => by omega⟩
        case round =>
          obtain ⟨KK, hKl, hKs, rfl, hKd⟩ := hrel
          by_cases hKlt : KK < s.size
          · have hKi : (KK : Int) < (s.size : Int) := by omega
            have hDc := digit78 ((((s[KK]'hKlt).toNat : Nat) : Int))
            have hgt := byteAt_get s KK hKlt
            have hst : Hid (digB ((((s[KK]'hKlt).toNat : Nat) : Int)) = true → ∀ q, i1 ≤ q → q < KK + 1 → isDig (byteAt s q) = true) := fun h q h1 h2 => by
              by_cases e : q = KK
              · rw [e, ← hgt, dig_is]; exact h
              · exact hKd.out q h1 (by omega)
            have hen : Hid (digB ((((s[KK]'hKlt).toNat : Nat) : Int)) = false → isDig (byteAt s KK) = false) := fun h => by rw [← hgt, dig_is]; exact h
            clear hgt
            cases hdg : digB ((((s[KK]'hKlt).toNat : Nat) : Int)) with
            | true =>
              rw [hdg] at hDc
              have hst2 : Hid (∀ q, i1 ≤ q → q < KK + 1 → isDig (byteAt s q) = true) := hst.out hdg
              clear hst hen
              go_wp2_with (first | (go_at_call 78; refine (hDc _).mono ?_; rintro r wx ⟨rfl, hwx⟩; subst wx))
              refine ⟨⟨KK + 1, by omega, by omega, by go_num, hst2⟩, ?_⟩
              simp [intOf]; omega
            | false =>
              rw [hdg] at hDc
              have hKe : Hid (¬ isDig (byteAt s KK) = true) := Bool.eq_false_iff.1 (hen.out hdg)
              clear hdg hst hen
              by_cases hK1 : KK + 1 < s.size
              case neg =>
                have hK1i : ¬ (KK : Int) + 1 < (s.size : Int) := by omega
                have hnum : NumQ s i1 KK := NumQ.mk <| num_none hKl hKs hKd.out (fun _ => Bool.eq_false_iff.2 hKe.out) (fun h => hK1 h.1)
                have hext : (s.extract i1 KK).size ≤ 1024 := by rw [ByteArray.size_extract]; omega
                have hik : (i1 : Int) ≤ (KK : Int) := by omega
                have hks : (KK : Int) ≤ (s.size : Int) := by omega
                have hpa := hV (s.extract i1 KK) w2 hext
                go_wp2_with (first
                  | (go_at_call 78; refine (hDc _).mono ?_; rintro r wx ⟨rfl, hwx⟩; subst wx)
                  | (go_at_call 213; refine hpa.mono ?_; clear hpa; rintro r w3 ⟨kv, nv, er, rfl, hb3, hpc⟩; apply Hid.out))
                have hB3 := bW0 w3 (.cells #[.int .i64 kv, .int .i64 nv] 34)
                have hb39 := hb3.out.trans (hB3.mono hb3.out.size)
                have hp3 := hp2.out.grow hb39
                have hx3 := bx2New w3 kv nv
                have hs39 := hb3.out.size
                generalize hW3 : w3.alloc (.cells #[.int .i64 kv, .int .i64 nv] 34) = W3 at *
                have hf39 : Fp p (W.alloc zE) W3 := hf3.out.trans (Fp.of hb39)
                unfold Hid
                by_cases her : er = 0
                · have heri : (er != 0) = false := by rw [her]; rfl
                  have hjr : Hid (JobR s (Job.od d) i KK 0 0 (exN ⟨kv, nv⟩)) := hJn.out KK _ (by omega) (by omega) hnum.h (by
                    rcases hpc.out with ⟨_, h⟩ | ⟨h, _⟩
                    · exact h
                    · exact absurd her h)
                  clear her
                  obtain ⟨y0, y1⟩ := hx3.cells
                  obtain ⟨v0, v1, v2, v3⟩ := hp3.cells
                  have vf := hp3.frozen 1
                  have hzz := (hz.out W3 hf39).sto (y := p) (i := 1) (u := .int .i64 (KK : Int)) (by omega)
                  obtain ⟨z0, z1, z2, z3, z4⟩ := hzz.cells
                  obtain ⟨f0, f1, f2, f3, f4⟩ := hzz.frozen
                  obtain ⟨q0, q1⟩ := (hx3.set (y := p) (i := 1) (u := .int .i64 (KK : Int)) (by omega)).cells
                  have hdn := jd_out (Jb := Job.od d) (i := i) (e := 0) hpl (hf39.set 1 _) (hp3.set1 KK) (by omega) (by omega) (fun q => absurd rfl q) (exN_V _ _ ⟨kv, nv⟩) hjr.out
                  go_wp2
                  exact ret27 Tryz.results198 rfl hdn.1 ⟨_, _, _, _, _, _, _, rfl, _, _, _, _, hdn.2⟩
                · have heri : (er != 0) = true := bne_iff_ne.2 her
                  have hjr : Hid (JobR s (Job.od d) i KK 0 110 (exN ⟨kv, nv⟩)) := hJo.out KK _ (by omega) (by omega) hnum.h (by
                    rcases hpc.out with ⟨h, _⟩ | ⟨_, h⟩
                    · exact absurd h her
                    · exact h)
                  clear her
                  have hfj := hfl.out W3 j2 t (i1 : Int) hp3
                  go_wp2_with (first | (go_at_call 52; refine hfj.mono ?_; clear hfj; rintro r w4 ⟨rfl, hA⟩; apply Hid.out))
                  obtain ⟨hf4, t4, hp4⟩ := hA.out
                  have hx4 := hx3.fp hf4 (by omega)
                  obtain ⟨y0, y1⟩ := hx4.cells
                  obtain ⟨v0, v1, v2, v3⟩ := hp4.cells
                  have vf := hp4.frozen 1
                  have hzz := (hz.out w4 (hf39.trans hf4)).sto (y := p) (i := 1) (u := .int .i64 (KK : Int)) (by omega)
                  obtain ⟨z0, z1, z2, z3, z4⟩ := hzz.cells
                  obtain ⟨f0, f1, f2, f3, f4⟩ := hzz.frozen
                  obtain ⟨q0, q1⟩ := (hx4.set (y := p) (i := 1) (u := .int .i64 (KK : Int)) (by omega)).cells
                  have hdn := jd_out (Jb := Job.od d) (i := i) (e := 0) hpl ((hf39.trans hf4).set 1 _) (hp4.set1 KK) (by omega) (by omega) (fun q => absurd rfl q) (exN_V _ _ ⟨kv, nv⟩) hjr.out
                  unfold Hid
                  go_wp2
                  exact ret27 Tryz.results198 rfl hdn.1 ⟨_, _, _, _, _, _, _, rfl, _, _, _, _, hdn.2⟩
              case pos =>
                have hK1i : (KK : Int) + 1 < (s.size : Int) := by omega
                have hgt := byteAt_get s KK hKlt
                have hgu := byteAt_get s (KK + 1) hK1
                have hp6 : Hid ((((s[KK]'hKlt).toNat : Nat) : Int) = byteAt s KK) := hgt
                have hq6 : Hid ((((s[KK + 1]'hK1).toNat : Nat) : Int) = byteAt s (KK + 1)) := hgu
                clear hgt hgu
                cases hpt : ((((s[KK]'hKlt).toNat : Nat) : Int) == 46) with
                | false =>
                  have hnum : NumQ s i1 KK := NumQ.mk <| num_none hKl hKs hKd.out (fun _ => Bool.eq_false_iff.2 hKe.out) (fun h => by
                    have := h.2.1
                    rw [← hp6.out] at this
                    rw [this] at hpt
                    exact absurd hpt (by decide))
                  clear hp6 hq6
                  have hext : (s.extract i1 KK).size ≤ 1024 := by rw [ByteArray.size_extract]; omega
                  have hik : (i1 : Int) ≤ (KK : Int) := by omega
                  have hks : (KK : Int) ≤ (s.size : Int) := by omega
                  have hpa := hV (s.extract i1 KK) w2 hext
                  go_wp2_with (first
                    | (go_at_call 78; refine (hDc _).mono ?_; rintro r wx ⟨rfl, hwx⟩; subst wx)
                    | (go_at_call 213; refine hpa.mono ?_; clear hpa; rintro r w3 ⟨kv, nv, er, rfl, hb3, hpc⟩; apply Hid.out))
                  have hB3 := bW0 w3 (.cells #[.int .i64 kv, .int .i64 nv] 34)
                  have hb39 := hb3.out.trans (hB3.mono hb3.out.size)
                  have hp3 := hp2.out.grow hb39
                  have hx3 := bx2New w3 kv nv
                  have hs39 := hb3.out.size
                  generalize hW3 : w3.alloc (.cells #[.int .i64 kv, .int .i64 nv] 34) = W3 at *
                  have hf39 : Fp p (W.alloc zE) W3 := hf3.out.trans (Fp.of hb39)
                  unfold Hid
                  by_cases her : er = 0
                  · have heri : (er != 0) = false := by rw [her]; rfl
                    have hjr : Hid (JobR s (Job.od d) i KK 0 0 (exN ⟨kv, nv⟩)) := hJn.out KK _ (by omega) (by omega) hnum.h (by
                      rcases hpc.out with ⟨_, h⟩ | ⟨h, _⟩
                      · exact h
                      · exact absurd her h)
                    clear her
                    obtain ⟨y0, y1⟩ := hx3.cells
                    obtain ⟨v0, v1, v2, v3⟩ := hp3.cells
                    have vf := hp3.frozen 1
                    have hzz := (hz.out W3 hf39).sto (y := p) (i := 1) (u := .int .i64 (KK : Int)) (by omega)
                    obtain ⟨z0, z1, z2, z3, z4⟩ := hzz.cells
                    obtain ⟨f0, f1, f2, f3, f4⟩ := hzz.frozen
                    obtain ⟨q0, q1⟩ := (hx3.set (y := p) (i := 1) (u := .int .i64 (KK : Int)) (by omega)).cells
                    have hdn := jd_out (Jb := Job.od d) (i := i) (e := 0) hpl (hf39.set 1 _) (hp3.set1 KK) (by omega) (by omega) (fun q => absurd rfl q) (exN_V _ _ ⟨kv, nv⟩) hjr.out
                    go_wp2
                    exact ret27 Tryz.results198 rfl hdn.1 ⟨_, _, _, _, _, _, _, rfl, _, _, _, _, hdn.2⟩
                  · have heri : (er != 0) = true := bne_iff_ne.2 her
                    have hjr : Hid (JobR s (Job.od d) i KK 0 110 (exN ⟨kv, nv⟩)) := hJo.out KK _ (by omega) (by omega) hnum.h (by
                      rcases hpc.out with ⟨h, _⟩ | ⟨_, h⟩
                      · exact absurd h her
                      · exact h)
                    clear her
                    have hfj := hfl.out W3 j2 t (i1 : Int) hp3
                    go_wp2_with (first | (go_at_call 52; refine hfj.mono ?_; clear hfj; rintro r w4 ⟨rfl, hA⟩; apply Hid.out))
                    obtain ⟨hf4, t4, hp4⟩ := hA.out
                    have hx4 := hx3.fp hf4 (by omega)
                    obtain ⟨y0, y1⟩ := hx4.cells
                    obtain ⟨v0, v1, v2, v3⟩ := hp4.cells
                    have vf := hp4.frozen 1
                    have hzz := (hz.out w4 (hf39.trans hf4)).sto (y := p) (i := 1) (u := .int .i64 (KK : Int)) (by omega)
                    obtain ⟨z0, z1, z2, z3, z4⟩ := hzz.cells
                    obtain ⟨f0, f1, f2, f3, f4⟩ := hzz.frozen
                    obtain ⟨q0, q1⟩ := (hx4.set (y := p) (i := 1) (u := .int .i64 (KK : Int)) (by omega)).cells
                    have hdn := jd_out (Jb := Job.od d) (i := i) (e := 0) hpl ((hf39.trans hf4).set 1 _) (hp4.set1 KK) (by omega) (by omega) (fun q => absurd rfl q) (exN_V _ _ ⟨kv, nv⟩) hjr.out
                    unfold Hid
                    go_wp2
                    exact ret27 Tryz.results198 rfl hdn.1 ⟨_, _, _, _, _, _, _, rfl, _, _, _, _, hdn.2⟩
                | true =>
                  have hpt6 : Hid (byteAt s KK = 46) := hp6.out.symm.trans (eq_of_beq hpt)
                  clear hp6
                  have hDd := digit78 ((((s[KK + 1]'hK1).toNat : Nat) : Int))
                  cases hd2 : digB ((((s[KK + 1]'hK1).toNat : Nat) : Int)) with
                  | false =>
                    rw [hd2] at hDd
                    have hnum : NumQ s i1 KK := NumQ.mk <| num_none hKl hKs hKd.out (fun _ => Bool.eq_false_iff.2 hKe.out) (fun h => by
                      have := h.2.2
                      rw [← hq6.out, dig_is, hd2] at this
                      exact absurd this (by decide))
                    clear hd2 hq6 hpt6
                    have hext : (s.extract i1 KK).size ≤ 1024 := by rw [ByteArray.size_extract]; omega
                    have hik : (i1 : Int) ≤ (KK : Int) := by omega
                    have hks : (KK : Int) ≤ (s.size : Int) := by omega
                    have hpa := hV (s.extract i1 KK) w2 hext
                    go_wp2_with (first
                      | (go_at_call 78; refine (hDc _).mono ?_; rintro r wx ⟨rfl, hwx⟩; subst wx)
                      | (go_at_call 78; refine (hDd _).mono ?_; rintro r wx ⟨rfl, hwx⟩; subst wx)
                      | (go_at_call 213; refine hpa.mono ?_; clear hpa; rintro r w3 ⟨kv, nv, er, rfl, hb3, hpc⟩; apply Hid.out))
                    have hB3 := bW0 w3 (.cells #[.int .i64 kv, .int .i64 nv] 34)
                    have hb39 := hb3.out.trans (hB3.mono hb3.out.size)
                    have hp3 := hp2.out.grow hb39
                    have hx3 := bx2New w3 kv nv
                    have hs39 := hb3.out.size
                    generalize hW3 : w3.alloc (.cells #[.int .i64 kv, .int .i64 nv] 34) = W3 at *
                    have hf39 : Fp p (W.alloc zE) W3 := hf3.out.trans (Fp.of hb39)
                    unfold Hid
                    by_cases her : er = 0
                    · have heri : (er != 0) = false := by rw [her]; rfl
                      have hjr : Hid (JobR s (Job.od d) i KK 0 0 (exN ⟨kv, nv⟩)) := hJn.out KK _ (by omega) (by omega) hnum.h (by
                        rcases hpc.out with ⟨_, h⟩ | ⟨h, _⟩
                        · exact h
                        · exact absurd her h)
                      clear her
                      obtain ⟨y0, y1⟩ := hx3.cells
                      obtain ⟨v0, v1, v2, v3⟩ := hp3.cells
                      have vf := hp3.frozen 1
                      have hzz := (hz.out W3 hf39).sto (y := p) (i := 1) (u := .int .i64 (KK : Int)) (by omega)
                      obtain ⟨z0, z1, z2, z3, z4⟩ := hzz.cells
                      obtain ⟨f0, f1, f2, f3, f4⟩ := hzz.frozen
                      obtain ⟨q0, q1⟩ := (hx3.set (y := p) (i := 1) (u := .int .i64 (KK : Int)) (by omega)).cells
                      have hdn := jd_out (Jb := Job.od d) (i := i) (e := 0) hpl (hf39.set 1 _) (hp3.set1 KK) (by omega) (by omega) (fun q => absurd rfl q) (exN_V _ _ ⟨kv, nv⟩) hjr.out
                      go_wp2
                      exact ret27 Tryz.results198 rfl hdn.1 ⟨_, _, _, _, _, _, _, rfl, _, _, _, _, hdn.2⟩
                    · have heri : (er != 0) = true := bne_iff_ne.2 her
                      have hjr : Hid (JobR s (Job.od d) i KK 0 110 (exN ⟨kv, nv⟩)) := hJo.out KK _ (by omega) (by omega) hnum.h (by
                        rcases hpc.out with ⟨h, _⟩ | ⟨_, h⟩
                        · exact absurd h her
                        · exact h)
                      clear her
                      have hfj := hfl.out W3 j2 t (i1 : Int) hp3
                      go_wp2_with (first | (go_at_call 52; refine hfj.mono ?_; clear hfj; rintro r w4 ⟨rfl, hA⟩; apply Hid.out))
                      obtain ⟨hf4, t4, hp4⟩ := hA.out
                      have hx4 := hx3.fp hf4 (by omega)
                      obtain ⟨y0, y1⟩ := hx4.cells
                      obtain ⟨v0, v1, v2, v3⟩ := hp4.cells
                      have vf := hp4.frozen 1
                      have hzz := (hz.out w4 (hf39.trans hf4)).sto (y := p) (i := 1) (u := .int .i64 (KK : Int)) (by omega)
                      obtain ⟨z0, z1, z2, z3, z4⟩ := hzz.cells
                      obtain ⟨f0, f1, f2, f3, f4⟩ := hzz.frozen
                      obtain ⟨q0, q1⟩ := (hx4.set (y := p) (i := 1) (u := .int .i64 (KK : Int)) (by omega)).cells
                      have hdn := jd_out (Jb := Job.od d) (i := i) (e := 0) hpl ((hf39.trans hf4).set 1 _) (hp4.set1 KK) (by omega) (by omega) (fun q => absurd rfl q) (exN_V _ _ ⟨kv, nv⟩) hjr.out
                      unfold Hid
                      go_wp2
                      exact ret27 Tryz.results198 rfl hdn.1 ⟨_, _, _, _, _, _, _, rfl, _, _, _, _, hdn.2⟩
                  | true =>
                    rw [hd2] at hDd
                    have hd6 : Hid (isDig (byteAt s (KK + 1)) = true) := by
                      show _ = _
                      rw [← hq6.out, dig_is]
                      exact hd2
                    clear hd2 hq6
                    go_wp2_with (first | with_reducible (go_at_call 78; refine (hDc _).mono ?_; rintro r wx ⟨rfl, hwx⟩; subst wx) | (go_at_call 78; refine (hDd _).mono ?_; rintro r wx ⟨rfl, hwx⟩; subst wx))
                    clear hDc hDd hpt
                    go_loop [8] (fun v => ∃ k : Nat, KK + 1 ≤ k ∧ k ≤ s.size ∧ v = .int .i64 k ∧ Hid (∀ q, KK + 1 ≤ q → q < k → isDig (byteAt s q) = true)) (fun v => s.size - (intOf v).toNat)
                    case atStart => exact ⟨KK + 1, Nat.le_refl _, by omega, by go_num, fun q h1 h2 => by omega⟩
                    case round =>
                      obtain ⟨LL, hLl, hLs, rfl, hLd⟩ := hrel
                      by_cases hLlt : LL < s.size
                      · have hLi : (LL : Int) < (s.size : Int) := by omega
                        have hDc := digit78 ((((s[LL]'hLlt).toNat : Nat) : Int))
                        have hgt := byteAt_get s LL hLlt
                        have hst : Hid (digB ((((s[LL]'hLlt).toNat : Nat) : Int)) = true → ∀ q, KK + 1 ≤ q → q < LL + 1 → isDig (byteAt s q) = true) := fun h q h1 h2 => by
                          by_cases e : q = LL
                          · rw [e, ← hgt, dig_is]; exact h
                          · exact hLd.out q h1 (by omega)
                        have hen : Hid (digB ((((s[LL]'hLlt).toNat : Nat) : Int)) = false → isDig (byteAt s LL) = false) := fun h => by rw [← hgt, dig_is]; exact h
                        clear hgt
                        cases hdg : digB ((((s[LL]'hLlt).toNat : Nat) : Int)) with
                        | true =>
                          rw [hdg] at hDc
                          have hst2 : Hid (∀ q, KK + 1 ≤ q → q < LL + 1 → isDig (byteAt s q) = true) := hst.out hdg
                          clear hst hen
                          go_wp2_with (first | (go_at_call 78; refine (hDc _).mono ?_; rintro r wx ⟨rfl, hwx⟩; subst wx))
                          refine ⟨⟨LL + 1, by omega, by omega, by go_num, hst2⟩, ?_⟩
                          simp [intOf]; omega
                        | false =>
                          rw [hdg] at hDc
                          have hLe : Hid (¬ isDig (byteAt s LL) = true) := Bool.eq_false_iff.1 (hen.out hdg)
                          clear hdg hst hen
                          have hnum : NumQ s i1 LL := NumQ.mk <| num_some hKl hKd.out (Bool.eq_false_iff.2 hKe.out) hpt6.out (by
                            by_cases e : LL = KK + 1
                            · have := hLe.out
                              rw [e, hd6.out] at this
                              exact absurd rfl this
                            · omega) (by omega) hLd.out (fun _ => Bool.eq_false_iff.2 hLe.out)
                          have hext : (s.extract i1 LL).size ≤ 1024 := by rw [ByteArray.size_extract]; omega
                          have hik : (i1 : Int) ≤ (LL : Int) := by omega
                          have hks : (LL : Int) ≤ (s.size : Int) := by omega
                          have hpa := hV (s.extract i1 LL) w2 hext
                          go_wp2_with (first
                            | (go_at_call 78; refine (hDc _).mono ?_; rintro r wx ⟨rfl, hwx⟩; subst wx)
                            | (go_at_call 213; refine hpa.mono ?_; clear hpa; rintro r w3 ⟨kv, nv, er, rfl, hb3, hpc⟩; apply Hid.out))
                          have hB3 := bW0 w3 (.cells #[.int .i64 kv, .int .i64 nv] 34)
                          have hb39 := hb3.out.trans (hB3.mono hb3.out.size)
                          have hp3 := hp2.out.grow hb39
                          have hx3 := bx2New w3 kv nv
                          have hs39 := hb3.out.size
                          generalize hW3 : w3.alloc (.cells #[.int .i64 kv, .int .i64 nv] 34) = W3 at *
                          have hf39 : Fp p (W.alloc zE) W3 := hf3.out.trans (Fp.of hb39)
                          unfold Hid
                          by_cases her : er = 0
                          · have heri : (er != 0) = false := by rw [her]; rfl
                            have hjr : Hid (JobR s (Job.od d) i LL 0 0 (exN ⟨kv, nv⟩)) := hJn.out LL _ (by omega) (by omega) hnum.h (by
                              rcases hpc.out with ⟨_, h⟩ | ⟨h, _⟩
                              · exact h
                              · exact absurd her h)
                            clear her
                            obtain ⟨y0, y1⟩ := hx3.cells
                            obtain ⟨v0, v1, v2, v3⟩ := hp3.cells
                            have vf := hp3.frozen 1
                            have hzz := (hz.out W3 hf39).sto (y := p) (i := 1) (u := .int .i64 (LL : Int)) (by omega)
                            obtain ⟨z0, z1, z2, z3, z4⟩ := hzz.cells
                            obtain ⟨f0, f1, f2, f3, f4⟩ := hzz.frozen
                            obtain ⟨q0, q1⟩ := (hx3.set (y := p) (i := 1) (u := .int .i64 (LL : Int)) (by omega)).cells
                            have hdn := jd_out (Jb := Job.od d) (i := i) (e := 0) hpl (hf39.set 1 _) (hp3.set1 LL) (by omega) (by omega) (fun q => absurd rfl q) (exN_V _ _ ⟨kv, nv⟩) hjr.out
                            go_wp2
                            exact ret27 Tryz.results198 rfl hdn.1 ⟨_, _, _, _, _, _, _, rfl, _, _, _, _, hdn.2⟩
                          · have heri : (er != 0) = true := bne_iff_ne.2 her
                            have hjr : Hid (JobR s (Job.od d) i LL 0 110 (exN ⟨kv, nv⟩)) := hJo.out LL _ (by omega) (by omega) hnum.h (by
                              rcases hpc.out with ⟨h, _⟩ | ⟨_, h⟩
                              · exact absurd h her
                              · exact h)
                            clear her
                            have hfj := hfl.out W3 j2 t (i1 : Int) hp3
                            go_wp2_with (first | (go_at_call 52; refine hfj.mono ?_; clear hfj; rintro r w4 ⟨rfl, hA⟩; apply Hid.out))
                            obtain ⟨hf4, t4, hp4⟩ := hA.out
                            have hx4 := hx3.fp hf4 (by omega)
                            obtain ⟨y0, y1⟩ := hx4.cells
                            obtain ⟨v0, v1, v2, v3⟩ := hp4.cells
                            have vf := hp4.frozen 1
                            have hzz := (hz.out w4 (hf39.trans hf4)).sto (y := p) (i := 1) (u := .int .i64 (LL : Int)) (by omega)
                            obtain ⟨z0, z1, z2, z3, z4⟩ := hzz.cells
                            obtain ⟨f0, f1, f2, f3, f4⟩ := hzz.frozen
                            obtain ⟨q0, q1⟩ := (hx4.set (y := p) (i := 1) (u := .int .i64 (LL : Int)) (by omega)).cells
                            have hdn := jd_out (Jb := Job.od d) (i := i) (e := 0) hpl ((hf39.trans hf4).set 1 _) (hp4.set1 LL) (by omega) (by omega) (fun q => absurd rfl q) (exN_V _ _ ⟨kv, nv⟩) hjr.out
                            unfold Hid
                            go_wp2
                            exact ret27 Tryz.results198 rfl hdn.1 ⟨_, _, _, _, _, _, _, rfl, _, _, _, _, hdn.2⟩
                      · have hLi : ¬ (LL : Int) < (s.size : Int) := by omega
                        have hnum : NumQ s i1 LL := NumQ.mk <| num_some hKl hKd.out (Bool.eq_false_iff.2 hKe.out) hpt6.out (by
                          by_cases e : LL = KK + 1
                          · omega
                          · omega) (by omega) hLd.out (fun q => absurd q (by omega))
                        have hext : (s.extract i1 LL).size ≤ 1024 := by rw [ByteArray.size_extract]; omega
                        have hik : (i1 : Int) ≤ (LL : Int) := by omega
                        have hks : (LL : Int) ≤ (s.size : Int) := by omega
                        have hpa := hV (s.extract i1 LL) w2 hext
                        go_wp2_with (first
                          | (go_at_call 213; refine hpa.mono ?_; clear hpa; rintro r w3 ⟨kv, nv, er, rfl, hb3, hpc⟩; apply Hid.out))
                        have hB3 := bW0 w3 (.cells #[.int .i64 kv, .int .i64 nv] 34)
                        have hb39 := hb3.out.trans (hB3.mono hb3.out.size)
                        have hp3 := hp2.out.grow hb39
                        have hx3 := bx2New w3 kv nv
                        have hs39 := hb3.out.size
                        generalize hW3 : w3.alloc (.cells #[.int .i64 kv, .int .i64 nv] 34) = W3 at *
                        have hf39 : Fp p (W.alloc zE) W3 := hf3.out.trans (Fp.of hb39)
                        unfold Hid
                        by_cases her : er = 0
                        · have heri : (er != 0) = false := by rw [her]; rfl
                          have hjr : Hid (JobR s (Job.od d) i LL 0 0 (exN ⟨kv, nv⟩)) := hJn.out LL _ (by omega) (by omega) hnum.h (by
                            rcases hpc.out with ⟨_, h⟩ | ⟨h, _⟩
                            · exact h
                            · exact absurd her h)
                          clear her
                          obtain ⟨y0, y1⟩ := hx3.cells
                          obtain ⟨v0, v1, v2, v3⟩ := hp3.cells
                          have vf := hp3.frozen 1
                          have hzz := (hz.out W3 hf39).sto (y := p) (i := 1) (u := .int .i64 (LL : Int)) (by omega)
                          obtain ⟨z0, z1, z2, z3, z4⟩ := hzz.cells
                          obtain ⟨f0, f1, f2, f3, f4⟩ := hzz.frozen
                          obtain ⟨q0, q1⟩ := (hx3.set (y := p) (i := 1) (u := .int .i64 (LL : Int)) (by omega)).cells
                          have hdn := jd_out (Jb := Job.od d) (i := i) (e := 0) hpl (hf39.set 1 _) (hp3.set1 LL) (by omega) (by omega) (fun q => absurd rfl q) (exN_V _ _ ⟨kv, nv⟩) hjr.out
                          go_wp2
                          exact ret27 Tryz.results198 rfl hdn.1 ⟨_, _, _, _, _, _, _, rfl, _, _, _, _, hdn.2⟩
                        · have heri : (er != 0) = true := bne_iff_ne.2 her
                          have hjr : Hid (JobR s (Job.od d) i LL 0 110 (exN ⟨kv, nv⟩)) := hJo.out LL _ (by omega) (by omega) hnum.h (by
                            rcases hpc.out with ⟨h, _⟩ | ⟨_, h⟩
                            · exact absurd h her
                            · exact h)
                          clear her
                          have hfj := hfl.out W3 j2 t (i1 : Int) hp3
                          go_wp2_with (first | (go_at_call 52; refine hfj.mono ?_; clear hfj; rintro r w4 ⟨rfl, hA⟩; apply Hid.out))
                          obtain ⟨hf4, t4, hp4⟩ := hA.out
                          have hx4 := hx3.fp hf4 (by omega)
                          obtain ⟨y0, y1⟩ := hx4.cells
                          obtain ⟨v0, v1, v2, v3⟩ := hp4.cells
                          have vf := hp4.frozen 1
                          have hzz := (hz.out w4 (hf39.trans hf4)).sto (y := p) (i := 1) (u := .int .i64 (LL : Int)) (by omega)
                          obtain ⟨z0, z1, z2, z3, z4⟩ := hzz.cells
                          obtain ⟨f0, f1, f2, f3, f4⟩ := hzz.frozen
                          obtain ⟨q0, q1⟩ := (hx4.set (y := p) (i := 1) (u := .int .i64 (LL : Int)) (by omega)).cells
                          have hdn := jd_out (Jb := Job.od d) (i := i) (e := 0) hpl ((hf39.trans hf4).set 1 _) (hp4.set1 LL) (by omega) (by omega) (fun q => absurd rfl q) (exN_V _ _ ⟨kv, nv⟩) hjr.out
                          unfold Hid
                          go_wp2
                          exact ret27 Tryz.results198 rfl hdn.1 ⟨_, _, _, _, _, _, _, rfl, _, _, _, _, hdn.2⟩
          · have hKi : ¬ (KK : Int) < (s.size : Int) := by omega
            have hK1 : ¬ (KK : Int) + 1 < (s.size : Int) := by omega
            have hnum : NumQ s i1 KK := NumQ.mk <| num_none hKl hKs hKd.out (fun q => absurd q (by omega)) (fun h => by have := h.1; omega)
            have hext : (s.extract i1 KK).size ≤ 1024 := by rw [ByteArray.size_extract]; omega
            have hik : (i1 : Int) ≤ (KK : Int) := by omega
            have hks : (KK : Int) ≤ (s.size : Int) := by omega
            have hpa := hV (s.extract i1 KK) w2 hext
            go_wp2_with (first
              | (go_at_call 213; refine hpa.mono ?_; clear hpa; rintro r w3 ⟨kv, nv, er, rfl, hb3, hpc⟩; apply Hid.out))
            have hB3 := bW0 w3 (.cells #[.int .i64 kv, .int .i64 nv] 34)
            have hb39 := hb3.out.trans (hB3.mono hb3.out.size)
            have hp3 := hp2.out.grow hb39
            have hx3 := bx2New w3 kv nv
            have hs39 := hb3.out.size
            generalize hW3 : w3.alloc (.cells #[.int .i64 kv, .int .i64 nv] 34) = W3 at *
            have hf39 : Fp p (W.alloc zE) W3 := hf3.out.trans (Fp.of hb39)
            unfold Hid
            by_cases her : er = 0
            · have heri : (er != 0) = false := by rw [her]; rfl
              have hjr : Hid (JobR s (Job.od d) i KK 0 0 (exN ⟨kv, nv⟩)) := hJn.out KK _ (by omega) (by omega) hnum.h (by
                rcases hpc.out with ⟨_, h⟩ | ⟨h, _⟩
                · exact h
                · exact absurd her h)
              clear her
              obtain ⟨y0, y1⟩ := hx3.cells
              obtain ⟨v0, v1, v2, v3⟩ := hp3.cells
              have vf := hp3.frozen 1
              have hzz := (hz.out W3 hf39).sto (y := p) (i := 1) (u := .int .i64 (KK : Int)) (by omega)
              obtain ⟨z0, z1, z2, z3, z4⟩ := hzz.cells
              obtain ⟨f0, f1, f2, f3, f4⟩ := hzz.frozen
              obtain ⟨q0, q1⟩ := (hx3.set (y := p) (i := 1) (u := .int .i64 (KK : Int)) (by omega)).cells
              have hdn := jd_out (Jb := Job.od d) (i := i) (e := 0) hpl (hf39.set 1 _) (hp3.set1 KK) (by omega) (by omega) (fun q => absurd rfl q) (exN_V _ _ ⟨kv, nv⟩) hjr.out
              go_wp2
              exact ret27 Tryz.results198 rfl hdn.1 ⟨_, _, _, _, _, _, _, rfl, _, _, _, _, hdn.2⟩
            · have heri : (er != 0) = true := bne_iff_ne.2 her
              have hjr : Hid (JobR s (Job.od d) i KK 0 110 (exN ⟨kv, nv⟩)) := hJo.out KK _ (by omega) (by omega) hnum.h (by
                rcases hpc.out with ⟨h, _⟩ | ⟨_, h⟩
                · exact absurd h her
                · exact h)
              clear her
              have hfj := hfl.out W3 j2 t (i1 : Int) hp3
              go_wp2_with (first | (go_at_call 52; refine hfj.mono ?_; clear hfj; rintro r w4 ⟨rfl, hA⟩; apply Hid.out))
              obtain ⟨hf4, t4, hp4⟩ := hA.out
              have hx4 := hx3.fp hf4 (by omega)
              obtain ⟨y0, y1⟩ := hx4.cells
              obtain ⟨v0, v1, v2, v3⟩ := hp4.cells
              have vf := hp4.frozen 1
              have hzz := (hz.out w4 (hf39.trans hf4)).sto (y := p) (i := 1) (u := .int .i64 (KK : Int)) (by omega)
              obtain ⟨z0, z1, z2, z3, z4⟩ := hzz.cells
              obtain ⟨f0, f1, f2, f3, f4⟩ := hzz.frozen
              obtain ⟨q0, q1⟩ := (hx4.set (y := p) (i := 1) (u := .int .i64 (KK : Int)) (by omega)).cells
              have hdn := jd_out (Jb := Job.od d) (i := i) (e := 0) hpl ((hf39.trans hf4).set 1 _) (hp4.set1 KK) (by omega) (by omega) (fun q => absurd rfl q) (exN_V _ _ ⟨kv, nv⟩) hjr.out
              unfold Hid
              go_wp2
              exact ret27 Tryz.results198 rfl hdn.1 ⟨_, _, _, _, _, _, _, rfl, _, _, _, _, hdn.2⟩
      | false =>
        rw [hdg] at hDc
        have hd0 : Hid (isDig (byteAt s i1) = false) := by
          show _ = _
          rw [← hg1.out, dig_is]
          exact hdg
        have hw0 : Hid (isWrd (byteAt s i1) = letB ((((s[i1]'hat).toNat : Nat) : Int))) := by
          show _ = _
          rw [← hg1.out, wrd_is, hdg, Bool.or_false]
        clear hdg
        have hLc2 := hLc
        cases hdl : ((((s[i1]'hat).toNat : Nat) : Int) == 36) with
        | true =>
          have hwd : Calls Tryz.prog 214 #[.pointer (some ⟨p, 0, none⟩), .int .i64 ((i1 : Int) + 1)] w2 fun r w' => ∃ u : ByteArray, r = .returned (.string u) ∧ i1 + 1 + u.size ≤ s.size ∧ w' = w2 ∧ Hid (u = s.extract (i1 + 1) (i1 + 1 + runN isWrd (s.extract (i1 + 1) s.size))) := rword_any w2 p s j2 0 t hp2.out (i1 + 1) (by omega) (by omega)
          go_wp2_with (first
            | (go_at_call 78; refine (hDc _).mono ?_; rintro r wx ⟨rfl, hwx⟩; subst wx)
            | (go_at_call 214; refine hwd.mono ?_; clear hwd; rintro r wx ⟨u, rfl, hu, hwx, hue⟩; subst wx; apply Hid.out))
          have hrf := rref57 u w2 (by omega)
          obtain ⟨b, hbe⟩ : ∃ b, Hid (refB u = b) := ⟨_, rfl⟩
          rw [hbe.out] at hrf
          have hc36 : Hid (byteAt s i1 = 36) := hg1.out.symm.trans (eq_of_beq hdl)
          have hjT : Hid (b = true → JobR s (Job.od d) i (i1 + 1 + u.size) 0 0 (exR u)) := fun h => by
            have hs := his.out
            have h0 := hc36.out
            have ha := hat
            have h1 := hue.out
            rw [hs] at h0 ha h1 ⊢
            exact JobR.ref hd32.out ha h0 h1 (hbe.out.trans h)
          have hjF : Hid (b = false → ∀ j6 X, JobR s (Job.od d) i j6 0 110 X) := fun h j6 X => by
            have hs := his.out
            have h0 := hc36.out
            have ha := hat
            have h1 := hue.out
            rw [hs] at h0 ha h1
            exact JobR.no (ref_no ha h0 h1 (hbe.out.trans h)) (by decide)
          clear hbe hc36 hg1
          have hui : (i1 : Int) + 1 + (u.size : Int) ≤ (s.size : Int) := by omega
          have e1 : (((i1 + 1 + u.size : Nat)) : Int) = (i1 : Int) + 1 + (u.size : Int) := by omega
          have hfj := hfl.out w2 j2 t (i1 : Int) hp2.out
          unfold Hid
          clear hDc hLc hLc2 hdl
          go_wp2_with (first
            | (go_at_call 57; refine hrf.mono ?_; clear hrf; rintro r wx ⟨rfl, hwx⟩; subst wx; apply Hid.out))
          unfold Hid
          cases b with
          | true =>
            have hzz := (hz.out w2 hf3.out).sto (y := p) (i := 1) (u := .int .i64 ((i1 : Int) + 1 + (u.size : Int))) (by omega)
            obtain ⟨z0, z1, z2, z3, z4⟩ := hzz.cells
            obtain ⟨f0, f1, f2, f3, f4⟩ := hzz.frozen
            have vf := hp2.out.frozen 1
            have hp5 := hp2.out.set1 (i1 + 1 + u.size)
            rw [e1] at hp5
            have hdn := jd_out (Jb := Job.od d) (i := i) (e := 0) hpl (hf3.out.set 1 _) hp5 (by omega) hu (fun q => absurd rfl q) (exR_V _ _ u) (hjT.out (by simp))
            go_wp2
            exact ret27 Tryz.results198 rfl hdn.1 ⟨_, _, _, _, _, _, _, rfl, _, _, _, _, hdn.2⟩
          | false =>
            go_wp2_with (first | (go_at_call 52; refine hfj.mono ?_; clear hfj; rintro r w4 ⟨rfl, hA⟩; apply Hid.out))
            obtain ⟨hf4, t4, hp4⟩ := hA.out
            obtain ⟨v0, v1, v2, v3⟩ := hp4.cells
            have hzz := (hz.out w4 (hf3.out.trans hf4)).sto (y := p) (i := 1) (u := .int .i64 ((i1 : Int) + 1 + (u.size : Int))) (by omega)
            obtain ⟨z0, z1, z2, z3, z4⟩ := hzz.cells
            obtain ⟨f0, f1, f2, f3, f4⟩ := hzz.frozen
            have vf := hp4.frozen 1
            have hp5 := hp4.set1 (i1 + 1 + u.size)
            rw [e1] at hp5
            have hdn := jd_out (Jb := Job.od d) (i := i) (e := 0) hpl ((hf3.out.trans hf4).set 1 _) hp5 (by omega) hu (fun q => absurd rfl q) (exR_V _ _ u) (hjF.out (by simp) _ _)
            unfold Hid
            go_wp2
            exact ret27 Tryz.results198 rfl hdn.1 ⟨_, _, _, _, _, _, _, rfl, _, _, _, _, hdn.2⟩
        | false =>
          cases hlt : letB ((((s[i1]'hat).toNat : Nat) : Int)) with
          | false =>
            rw [hlt] at hLc hw0
            have hn36 : byteAt s i1 ≠ 36 := fun q => by rw [← hg1.out] at q; rw [q] at hdl; exact absurd hdl (by decide)
            have hno : Hid (opens (tokAt parC s (skipB s i)) = false) := by
              have hs := his.out
              have h0 := hvg.out
              have h2 := hd0.out
              have h3 := hw0.out
              have ha := hat
              rw [hs] at h0 h2 h3 ha hn36
              exact sign_no ha hn36 h2 h3 h0 hnsg.out
            clear hlt hLc2 hn36 hg1
            have hfj := hfl.out w2 j2 t (i1 : Int) hp2.out
            go_wp2_with (first | (go_at_call 52; refine hfj.mono ?_; clear hfj; rintro r w4 ⟨rfl, hA⟩; obtain ⟨hf4, t4, hp4⟩ := hA.out; obtain ⟨z0, z1, z2, z3, z4⟩ := (hz.out w4 (hf3.out.trans hf4)).cells; obtain ⟨f0, f1, f2, f3, f4⟩ := (hz.out w4 (hf3.out.trans hf4)).frozen) | (go_at_call 78; refine (hDc _).mono ?_; rintro r wx ⟨rfl, hwx⟩; subst wx) | (go_at_call 77; refine (hLc _).mono ?_; rintro r wx ⟨rfl, hwx⟩; subst wx))
            have hdn := jd_out (Jb := Job.od d) (i := i) (e := 0) hpl (hf3.out.trans hf4) hp4 (by omega) hj2 (fun q => absurd rfl q) (exZ_V _ _) (JobR.no hno.out (by decide))
            exact ret27 Tryz.results198 rfl hdn.1 ⟨_, _, _, _, _, _, _, rfl, _, _, _, _, hdn.2⟩
          | true =>
            rw [hlt] at hLc hw0
            have hn36 : Hid (byteAt s i1 ≠ 36) := fun q => by rw [← hg1.out] at q; rw [q] at hdl; exact absurd hdl (by decide)
            clear hlt hLc2 hg1
            have hwd : Calls Tryz.prog 214 #[.pointer (some ⟨p, 0, none⟩), .int .i64 (i1 : Int)] w2 fun r w' => ∃ u : ByteArray, r = .returned (.string u) ∧ i1 + u.size ≤ s.size ∧ w' = w2 ∧ Hid (u = s.extract i1 (i1 + runN isWrd (s.extract i1 s.size))) := rword_any w2 p s j2 0 t hp2.out i1 (by omega) (by omega)
            have vf := hp2.out.frozen 1
            go_wp2_with (first
              | (go_at_call 78; refine (hDc _).mono ?_; rintro r wx ⟨rfl, hwx⟩; subst wx)
              | (go_at_call 77; refine (hLc _).mono ?_; rintro r wx ⟨rfl, hwx⟩; subst wx)
              | (go_at_call 214; refine hwd.mono ?_; clear hwd; rintro r wx ⟨u, rfl, hu, hwx, hue⟩; subst wx; apply Hid.out))
            have hui : (i1 : Int) + (u.size : Int) ≤ (s.size : Int) := by omega
            have e1 : (((i1 + u.size : Nat)) : Int) = (i1 : Int) + (u.size : Int) := by omega
            have hp5 := hp2.out.set1 (i1 + u.size)
            rw [e1] at hp5
            have hf5 := hf3.out.set 1 (.int .i64 ((i1 : Int) + (u.size : Int)))
            have hus : u.size ≤ 1024 := by omega
            have htk : Hid (tokAt parC s (skipB s i) = ofWord u) := by
              have hs := his.out
              have h1 := hue.out
              have h2 := hd0.out
              have h3 := hw0.out
              have ha := hat
              have h4 := hn36.out
              rw [hs] at h1 h2 h3 ha h4
              exact tok_word ha h4 h2 h3 h1
            have hjC : Hid (∀ v, ofWord u = ⟨3, u.size, ⟨#[]⟩, v⟩ → JobR s (Job.od d) i (i1 + u.size) 0 0 (exN v)) := fun v h => by
              rw [his.out]
              exact JobR.cst hd32.out (htk.out.trans h)
            clear hn36
            have hif := isfn_any u (w2.setCell ⟨p, 1, none⟩ (.int .i64 ((i1 : Int) + (u.size : Int))))
            have hv1 := hN1 (w2.setCell ⟨p, 1, none⟩ (.int .i64 ((i1 : Int) + (u.size : Int))))
            have hv2 := hN2 (w2.setCell ⟨p, 1, none⟩ (.int .i64 ((i1 : Int) + (u.size : Int))))
            have hv3 := hN3 (w2.setCell ⟨p, 1, none⟩ (.int .i64 ((i1 : Int) + (u.size : Int))))
            have hfj := hfl.out _ (i1 + u.size) t (i1 : Int) hp5
            have hm1 := hmu.out _ (i1 + u.size) 0 t ⟨#[40]⟩ (by decide) (by decide) hp5 hu
            have hs9 : (w2.setCell ⟨p, 1, none⟩ (.int .i64 ((i1 : Int) + (u.size : Int)))).heap.size = w2.heap.size := set_size
            unfold Hid
            clear hDc hLc hdl
            cases hw1 : (u.toList == [110, 117, 108, 108]) with
            | true =>
              have hjr : Hid (JobR s (Job.od d) i (i1 + u.size) 0 0 (exN nul)) := hjC.out _ (by rw [lit_eq hw1]; rfl)
              go_wp2_with (first
                | (go_at_call 82; refine hv1.mono ?_; clear hv1; rintro r w4 ⟨kv, nv, rfl, hb4, hkv⟩; have hf4 := hf5.trans (Fp.of hb4.out); obtain ⟨z0, z1, z2, z3, z4⟩ := (hz.out w4 hf4).cells; obtain ⟨f0, f1, f2, f3, f4⟩ := (hz.out w4 hf4).frozen))
              have hdn := jd_out (Jb := Job.od d) (i := i) (e := 0) hpl hf4 (hp5.grow hb4.out) (by omega) hu (fun q => absurd rfl q) (exN_V _ _ ⟨kv, nv⟩) (by rw [hkv.out]; exact hjr.out)
              exact ret27 Tryz.results198 rfl hdn.1 ⟨_, _, _, _, _, _, _, rfl, _, _, _, _, hdn.2⟩
            | false =>
              cases hw2 : (u.toList == [110, 97, 110]) with
              | true =>
                have hjr : Hid (JobR s (Job.od d) i (i1 + u.size) 0 0 (exN nan)) := hjC.out _ (by rw [lit_eq hw2]; rfl)
                go_wp2_with (first
                  | (go_at_call 83; refine hv2.mono ?_; clear hv2; rintro r w4 ⟨kv, nv, rfl, hb4, hkv⟩; have hf4 := hf5.trans (Fp.of hb4.out); obtain ⟨z0, z1, z2, z3, z4⟩ := (hz.out w4 hf4).cells; obtain ⟨f0, f1, f2, f3, f4⟩ := (hz.out w4 hf4).frozen))
                have hdn := jd_out (Jb := Job.od d) (i := i) (e := 0) hpl hf4 (hp5.grow hb4.out) (by omega) hu (fun q => absurd rfl q) (exN_V _ _ ⟨kv, nv⟩) (by rw [hkv.out]; exact hjr.out)
                exact ret27 Tryz.results198 rfl hdn.1 ⟨_, _, _, _, _, _, _, rfl, _, _, _, _, hdn.2⟩
              | false =>
                cases hw3 : (u.toList == [105, 110, 102]) with
                | true =>
                  have hjr : Hid (JobR s (Job.od d) i (i1 + u.size) 0 0 (exN pls)) := hjC.out _ (by rw [lit_eq hw3]; rfl)
                  go_wp2_with (first
                    | (go_at_call 40; refine hv3.mono ?_; clear hv3; rintro r w4 ⟨kv, nv, rfl, hb4, hkv⟩; have hf4 := hf5.trans (Fp.of hb4.out); obtain ⟨z0, z1, z2, z3, z4⟩ := (hz.out w4 hf4).cells; obtain ⟨f0, f1, f2, f3, f4⟩ := (hz.out w4 hf4).frozen))
                  have hdn := jd_out (Jb := Job.od d) (i := i) (e := 0) hpl hf4 (hp5.grow hb4.out) (by omega) hu (fun q => absurd rfl q) (exN_V _ _ ⟨kv, nv⟩) (by rw [hkv.out]; exact hjr.out)
                  exact ret27 Tryz.results198 rfl hdn.1 ⟨_, _, _, _, _, _, _, rfl, _, _, _, _, hdn.2⟩
                | false =>
                  have hof := ofWord_fn hw1 hw2 hw3
                  have htk2 : Hid (tokAt parC s (skipB s i) = if fnB u = true then ⟨5, u.size, u, zer⟩ else tk0) := htk.out.trans hof
                  clear hof
                  obtain ⟨b, hbe⟩ : ∃ b, fnB u = b := ⟨_, rfl⟩
                  rw [hbe] at hif htk2
                  have hu40 : Hid (b = true → u ≠ ⟨#[40]⟩) := fun h q => by
                    rw [h, q] at hbe
                    exact absurd hbe (by decide +kernel)
                  clear hbe hjC htk
                  go_wp2_with (first
                    | (go_at_call 215; refine hif.mono ?_; clear hif; rintro r wx ⟨rfl, hwx⟩; subst wx; apply Hid.out))
                  unfold Hid
                  cases b with
                  | false =>
                    go_wp2_with (first | (go_at_call 52; refine hfj.mono ?_; clear hfj; rintro r w4 ⟨rfl, hA⟩; obtain ⟨hf4, t4, hp4⟩ := hA.out; obtain ⟨z0, z1, z2, z3, z4⟩ := (hz.out w4 (hf5.trans hf4)).cells; obtain ⟨f0, f1, f2, f3, f4⟩ := (hz.out w4 (hf5.trans hf4)).frozen))
                    have hdn := jd_out (Jb := Job.od d) (i := i) (e := 0) hpl (hf5.trans hf4) hp4 (by omega) hu (fun q => absurd rfl q) (exZ_V _ _) (JobR.no (by rw [show tokAt parC s (skipB s i) = tk0 from htk2.out.trans (by simp)]; decide) (by decide))
                    exact ret27 Tryz.results198 rfl hdn.1 ⟨_, _, _, _, _, _, _, rfl, _, _, _, _, hdn.2⟩
                  | true =>
                    go_wp2_with (first
                      | (go_at_call 212; refine hm1.mono ?_; clear hm1; rintro r w4 ⟨rfl, j6, e6, t6, hj6, hl6, hp6, hf6, he6, hm6⟩; apply Hid.out))
                    have hc := hE2 w4 j6 e6 t6 hp6.out hl6
                    have hsz4 := hf6.out.size
                    unfold Hid
                    go_wp2_with (first
                      | (go_at_call 50; refine hc.mono ?_; clear hc; rintro r w5 ⟨k7, n7, x7, y7, a7, m7, c7, rfl, j7, e7, t7, X7, h7⟩; apply Hid.out))
                    have hb7 := bW0 w5 (.cells #[.int .i64 k7, .string n7, .int .i64 x7, .int .i64 y7, .slice a7 m7 c7] 62)
                    have hm2 := hmu.out _ j7 e7 t7 ⟨#[41]⟩ (by decide) (by decide) (h7.out.rp.grow hb7) h7.out.le
                    have hsz7 := h7.out.fp.size
                    unfold Hid
                    go_wp2_with (first
                      | (go_at_call 212; refine hm2.mono ?_; clear hm2; rintro r w6 ⟨rfl, j8, e8, t8, hj8, hl8, hp8, hf8, he8, hm8⟩; apply Hid.out))
                    obtain ⟨g0, g1, g2, g3, g4⟩ := ((bxNew w5 62 (.int .i64 k7) (.string n7) (.int .i64 x7) (.int .i64 y7) (.slice a7 m7 c7)).fp hf8.out (by omega)).cells
                    have hf86 := hf5.trans (hf6.out.trans (h7.out.fp.trans ((Fp.of hb7).trans hf8.out)))
                    have hsz8 := hf8.out.size
                    have hsz9 := hb7.size
                    unfold Hid
                    go_wp2_with (first
                      | (go_at_call 71; refine (hcl _ _ _).mono ?_; rintro r w9 ⟨rfl, hb9⟩; have hb10 := (bW0 w6 (.cells #[.int .i64 k7, .string n7, .int .i64 x7, .int .i64 y7, .slice a7 m7 c7] 62)).trans (hb9.mono (by simp)); have hfz := hf86.trans (Fp.of hb10); obtain ⟨z0, z1, z2, z3, z4⟩ := (hz.out w9 hfz).cells; obtain ⟨f0, f1, f2, f3, f4⟩ := (hz.out w9 hfz).frozen))
                    have hV7 := (((h7.out.v.more (A' := fun b => W.heap.size < b ∧ b ≠ p) fun b hb => ⟨by omega, by omega⟩).grow hb7).fp hf8.out (fun b hb => hb.2)).more (A' := fun b => W.heap.size < b) fun b hb => hb.1
                    have hV := exC1_V (A := fun b => W.heap.size < b) X7 u _ _ _ _ _ hV7 (by omega)
                    have hge7 := h7.out.ge
                    have hdn := jd_out (Jb := Job.od d) (i := i) (e := 0) hpl hfz (hp8.out.grow hb10) (by omega) hl8 (fun q => absurd rfl q) (hV.grow hb9) (by
                      have h6 := hm6.out (by simp)
                      rw [his.out] at h6
                      exact JobR.fn hd32.out (hu40.out (by simp)) (htk2.out.trans (by simp)) h6 h7.out.we h7.out.er hm8.out he8.out)
                    exact ret27 Tryz.results198 rfl hdn.1 ⟨_, _, _, _, _, _, _, rfl, _, _, _, _, hdn.2⟩
end Go.Proofs.YtaffplmfnincfaaGreatDoor
