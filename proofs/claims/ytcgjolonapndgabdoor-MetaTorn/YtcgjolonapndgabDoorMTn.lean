/- MetaTorn: a sector of a meta's first bytes and the other ones of an elder meta, or 0, is the one, or the other, or none. Conditions: none beyond the row's. -/
import Derived.Test.YtcgjolonapndgabDoorMTrn
import Derived.Test.YtcgjolonapndgabDoorTie
import Derived.Test.YtcgjolonapndgabDoorCards
import Derived.SevenTiedAt
namespace Go.Proofs.YtcgjolonapndgabDoor.metaTorn
open Go.ChangeShapes Go.WideShapes Go.ChangeAt Go.RowKit Go.Maps Go.ChangeMaps Go.MapKept
set_option linter.unusedVariables false
set_option maxRecDepth 100000 in
set_option maxHeartbeats 16000000 in
theorem walk (a0 : Int) (q1 : Nat) (r1 k1 d1 : Int) (q2 : Nat) (r2 k2 d2 : Int) (a3 : Int) (a4 : Bool) (w : World) (w0 : (Lit.int .u64 a0).wf = true) (hq1 : q1 < 2 ^ 64) (hr1 : In6 r1) (hk1 : In6 k1) (hd1 : In6 d1) (hq2 : q2 < 2 ^ 64) (hr2 : In6 r2) (hk2 : In6 k2) (hd2 : In6 d2) (w3 : (Lit.int .i64 a3).wf = true) :
    Calls Tryd.prog 5 #[.int .u64 a0, .agg #[.int .u64 q1, .int .i64 r1, .int .i64 k1, .int .i64 d1], .agg #[.int .u64 q2, .int .i64 r2, .int .i64 k2, .int .i64 d2], .int .i64 a3, .bool a4] w fun e w' => e = .returned (.bool true) ∧ Below w.heap.size w w' := by
  have b0 := bounds_u64 w0
  have b3 := bounds_i64 w3
  clear w0 w3 hq1 hq2 hr1 hk1 hd1 hr2 hk2 hd2
  obtain ⟨sq, rfl⟩ : ∃ n : Nat, a0 = n := ⟨a0.toNat, by omega⟩
  by_cases hok : 1 ≤ sq ∧ sq ≤ 4611686018427387904 ∧ 0 ≤ a3 ∧ a3 ≤ 64
  · obtain ⟨o1, o2, o3, o4⟩ := hok
    obtain ⟨cut, rfl⟩ : ∃ n : Nat, a3 = n := ⟨a3.toNat, by omega⟩
    have g1 : decide ((sq : Int) < 1) = false := by simp; omega
    have g2 : decide ((4611686018427387904 : Int) < (sq : Int)) = false := by simp; omega
    have g3 : decide ((cut : Int) < 0) = false := by simp
    have g4 : decide ((64 : Int) < (cut : Int)) = false := by simp; omega
    have g5 : IntKind.u64.wrap ((sq : Int) + 2) = ((sq + 2 : Nat) : Int) := by rw [wrap_u64 _ (by omega) (by omega)]; omega
    obtain ⟨nq, hnq⟩ : ∃ nq : Nat, (sq : Int) + 2 = nq := ⟨sq + 2, by omega⟩
    have hnl : nq < 2 ^ 64 := by omega
    have hnn : nq ≠ sq := by omega
    have hn0 : nq ≠ 0 := by omega
    have hBW : Below w.heap.size w ((w.alloc (.cells #[.int .u64 sq, .int .i64 r1, .int .i64 k1, .int .i64 d1] 24)).alloc (.cells #[.int .u64 nq, .int .i64 r2, .int .i64 k2, .int .i64 d2] 24)) := ((Below.refl w.heap.size w).alloc (Nat.le_refl _) _).alloc (by simp) _
    have hmW : MetaAt ((w.alloc (.cells #[.int .u64 sq, .int .i64 r1, .int .i64 k1, .int .i64 d1] 24)).alloc (.cells #[.int .u64 nq, .int .i64 r2, .int .i64 k2, .int .i64 d2] 24)) (w.heap.size + 1) nq r2 k2 d2 := by
      have := heap_alloc_new (w.alloc (.cells #[.int .u64 sq, .int .i64 r1, .int .i64 k1, .int .i64 d1] 24)) (.cells #[.int .u64 nq, .int .i64 r2, .int .i64 k2, .int .i64 d2] 24)
      rwa [World.size_alloc] at this
    go_enter Tryd.func5, Tryd.ntmps5
    go_wp2_with fail
    refine (mput_ex sq r1 k1 d1 _ (by omega)).mono ?_
    rintro e w2 ⟨b2, rfl, hg2, hrow2, hb2⟩
    have hge2 : w.heap.size ≤ b2 := Nat.le_trans hBW.size hg2
    have hB2 := hBW.trans (hb2.mono hBW.size)
    have hm2 := hmW.keep (hb2.block _ hmW.lt)
    have hlt2 := hmW.lt
    have ho2 := own_row hrow2 hge2 (by rw [metaB_len]; omega)
    rw [metaB_len] at ho2
    obtain ⟨v3, w3, hz3, ho3, hgr3, _⟩ := run_zeros ho2 (by simp) 28 (by rw [metaB_len]; omega) hB2.size
    replace hz3 : ∀ ty, (Builtin.append_ #[25, 3] ty #[.slice (some ⟨b2, 0, none⟩) 36 36, .int .i64 28]).run Tryd.prog w2 = .ok v3 w3 := hz3
    have hne2 : w.heap.size + 1 ≠ b2 := by
      have h1 := hmW.lt
      intro e
      omega
    have hm3 := hm2.keep (hgr3.block _ hm2.lt (fun e => hne2 (own_slice e.symm).symm))
    obtain ⟨c0, c1, c2, c3⟩ := hm3.cells
    have hB3 := hB2.grown hgr3 hB2.size (fun x hx => by have := own_slice hx; omega)
    clear hBW hmW hm2 ho2 hrow2 hb2 hgr3 hg2
    replace hz3 : Hid _ := hz3
    go_wp2_with (first | (at_builtin; refine Lib.wpList_append_run _ rfl _ _ 25 3 rfl (.slice (some ⟨b2, 0, none⟩) 36 36) (.int .i64 28) rfl rfl v3 w3 (hz3.out _) ?_))
    refine (mput_ex nq r2 k2 d2 _ hnl).mono ?_
    rintro e w4 ⟨b4, rfl, hg4, hrow4, hb4⟩
    have ho4 := own_row hrow4 (Nat.le_trans hB3.size hg4) (by rw [metaB_len]; omega)
    rw [metaB_len] at ho4
    have hB4 := hB3.trans (hb4.mono hB3.size)
    obtain ⟨v5, w5, hz5, ho5, hgr5, _⟩ := run_zeros ho4 (by simp) 28 (by rw [metaB_len]; omega) hB4.size
    replace hz5 : ∀ ty, (Builtin.append_ #[25, 3] ty #[.slice (some ⟨b4, 0, none⟩) 36 36, .int .i64 28]).run Tryd.prog w4 = .ok v5 w5 := hz5
    replace hz5 : Hid _ := hz5
    have hB5 := hB4.grown hgr5 hB4.size (fun x hx => by have := own_slice hx; have := hB3.size; omega)
    have hB35 := hb4.grown hgr5 hb4.size (fun x hx => by have := own_slice hx; omega)
    have hbN : Bts w5 v5 (metaB nq r2 k2 d2 ++ zeros 28) := ho5.bts
    have hbA : Bts w5 v3 (metaB sq r1 k1 d1 ++ zeros 28) := ho3.bts.grow hB35
    have hNl : (metaB nq r2 k2 d2 ++ zeros 28).length = 64 := by rw [List.length_append, metaB_len]; simp [zeros]
    have hAl : (metaB sq r1 k1 d1 ++ zeros 28).length = 64 := by rw [List.length_append, metaB_len]; simp [zeros]
    have hNb : IsBytes (metaB nq r2 k2 d2 ++ zeros 28) := isBytes_append (metaB_bytes _ _ _ _) (isBytes_zeros 28)
    have hAb : IsBytes (metaB sq r1 k1 d1 ++ zeros 28) := isBytes_append (metaB_bytes _ _ _ _) (isBytes_zeros 28)
    have htA : Hid (isMeta ((metaB nq r2 k2 d2 ++ zeros 28).take cut ++ (metaB sq r1 k1 d1 ++ zeros 28).drop cut) = true → (metaB nq r2 k2 d2 ++ zeros 28).take cut ++ (metaB sq r1 k1 d1 ++ zeros 28).drop cut = metaB sq r1 k1 d1 ++ zeros 28 ∨ (metaB nq r2 k2 d2 ++ zeros 28).take cut ++ (metaB sq r1 k1 d1 ++ zeros 28).drop cut = metaB nq r2 k2 d2 ++ zeros 28) :=
      torn_is _ _ sq nq cut hAl hNl (by omega) hnl hnn (by omega) (sec_first _ _ _ _ _) (sec_last _ _ _ _ _) (sec_first _ _ _ _ _) (sec_last _ _ _ _ _) (by rw [sec_rest, sec_rest])
    have htZ : Hid (isMeta ((metaB nq r2 k2 d2 ++ zeros 28).take cut ++ (zeros 64).drop cut) = true → (metaB nq r2 k2 d2 ++ zeros 28).take cut ++ (zeros 64).drop cut = zeros 64 ∨ (metaB nq r2 k2 d2 ++ zeros 28).take cut ++ (zeros 64).drop cut = metaB nq r2 k2 d2 ++ zeros 28) :=
      torn_is _ _ 0 nq cut (by simp [zeros]) hNl (by omega) hnl hn0 (by omega) zeros_first zeros_last (sec_first _ _ _ _ _) (sec_last _ _ _ _ _) (by rw [sec_rest, zeros_rest])
    generalize metaB nq r2 k2 d2 ++ zeros 28 = N at *
    generalize metaB sq r1 k1 d1 ++ zeros 28 = A at *
    have hlN := len_bts hbN
    rw [hNl] at hlN
    have hmz := makeZ w5 64 (by omega)
    have hrz : Row (w5.alloc (.cells ((zeros 64).map (Value.int .u8)).toArray 5)) w5.heap.size (zeros 64) := heap_alloc_new w5 _
    have hbz : Below w5.heap.size w5 (w5.alloc (.cells ((zeros 64).map (Value.int .u8)).toArray 5)) := (Below.refl _ _).alloc (Nat.le_refl _) _
    generalize w5.alloc (.cells ((zeros 64).map (Value.int .u8)).toArray 5) = w6 at hmz hrz hbz
    simp only [slV] at hmz
    clear ho3 ho4 ho5 hrow4 hb4 hg4 hgr5 hm3 hB4 hB35 c0 c1 c2 c3 hz3
    cases a4 with
    | false =>
      clear hmz hrz hbz htZ
      have hlA := len_bts hbA
      rw [hAl] at hlA
      go_wp2_with (first | (at_builtin; refine Lib.wpList_append_run _ rfl _ _ 25 3 rfl (.slice (some ⟨b4, 0, none⟩) 36 36) (.int .i64 28) rfl rfl v5 w5 (hz5.out _) ?_))
      have hP64 : A.length = 64 := hAl
      have hbP := hbA
      have hbNc := hbN
      have hBc := hB5
      have hPb := hAb
      have htX := htA
      have hmz5 := hlA
      generalize A = P at *
      obtain ⟨aP, cP, hvP⟩ : ∃ ad c, v3 = .slice (some ad) 64 c := by
        obtain ⟨a, c, e, _, h⟩ := hbP
        rcases h with h | ⟨b, o, rfl, _⟩
        · rw [h] at hP64; simp at hP64
        · exact ⟨_, c, by rw [e, hP64]⟩
      obtain ⟨aN, cN, hvN⟩ : ∃ ad c, v5 = .slice (some ad) 64 c := by
        obtain ⟨a, c, e, _, h⟩ := hbNc
        rcases h with h | ⟨b, o, rfl, _⟩
        · rw [h] at hNl; simp at hNl
        · exact ⟨_, c, by rw [e, hNl]⟩
      subst hvP hvN
      as_aux_lemma =>
        obtain ⟨at2, mt2, ct2, hst, hbt⟩ := to_some hbNc cut (by omega)
        obtain ⟨af2, mf2, cf2, hsf, hbf⟩ := from_some hbP cut (by omega)
        refine (mget_any _ P _ hbP hPb).mono ?_
        rintro e w7 ⟨rfl, hb7⟩
        have hB7 := hBc.trans (hb7.mono hBc.size)
        have hN7 := hbNc.grow hb7
        have ht7 := hbt.grow hb7
        have hf7 := hbf.grow hb7
        have hXM : Hid (getE (N.take cut ++ P.drop cut) = 40 ∨ getM (N.take cut ++ P.drop cut) = getM P ∨ getM (N.take cut ++ P.drop cut) = getM N) := by
          show _ ∨ _
          cases hm : isMeta (N.take cut ++ P.drop cut) with
          | false => left; unfold getE; rw [hm]; rfl
          | true =>
            right
            rcases htX.out hm with e | e
            · left; rw [e]
            · right; rw [e]
        have hXb : IsBytes (N.take cut ++ P.drop cut) := isBytes_append (hNb.take cut) (hPb.drop cut)
        have hXl : Hid ((N.take cut).length + (P.drop cut).length ≤ 1000) := by show _ ≤ _; simp; omega
        have htl : Hid ((N.take cut).length ≤ 1000) := by show _ ≤ _; simp; omega
        clear htX hbt hbf hbP hPb hb7 hBc hbNc
        generalize getM P = mP at *
        generalize getE P = eP at *
        have hmo : MetaAt (w7.alloc (.cells #[.int .u64 mP.q, .int .i64 mP.r, .int .i64 mP.k, .int .i64 mP.d] 24)) w7.heap.size mP.q mP.r mP.k mP.d := heap_alloc_new w7 _
        have hgN := mget_any _ N (w7.alloc (.cells #[.int .u64 mP.q, .int .i64 mP.r, .int .i64 mP.k, .int .i64 mP.d] 24)) (hN7.alloc _) hNb
        generalize hMN : getM N = mN at *
        generalize getE N = eN at *
        have hBo := hB7.alloc hB7.size (.cells #[.int .u64 mP.q, .int .i64 mP.r, .int .i64 mP.k, .int .i64 mP.d] 24)
        go_wp2_with fail
        refine hgN.mono ?_
        rintro e w8 ⟨rfl, hb8⟩
        have hB8 := hBo.trans (hb8.mono hBo.size)
        have hmo8 := hmo.keep (hb8.block _ hmo.lt)
        have ht8 := (ht7.alloc (.cells #[.int .u64 mP.q, .int .i64 mP.r, .int .i64 mP.k, .int .i64 mP.d] 24)).grow hb8
        have hf8 := (hf7.alloc (.cells #[.int .u64 mP.q, .int .i64 mP.r, .int .i64 mP.k, .int .i64 mP.d] 24)).grow hb8
        have hmf : MetaAt (w8.alloc (.cells #[.int .u64 mN.q, .int .i64 mN.r, .int .i64 mN.k, .int .i64 mN.d] 24)) w8.heap.size mN.q mN.r mN.k mN.d := heap_alloc_new w8 _
        have hmo9 := hmo8.keep ((heap_alloc w8 (.cells #[.int .u64 mN.q, .int .i64 mN.r, .int .i64 mN.k, .int .i64 mN.d] 24)).2 _ hmo8.lt)
        have hBf := hB8.alloc hB8.size (.cells #[.int .u64 mN.q, .int .i64 mN.r, .int .i64 mN.k, .int .i64 mN.d] 24)
        have ht9 := ht8.alloc (.cells #[.int .u64 mN.q, .int .i64 mN.r, .int .i64 mN.k, .int .i64 mN.d] 24)
        have hf9 := hf8.alloc (.cells #[.int .u64 mN.q, .int .i64 mN.r, .int .i64 mN.k, .int .i64 mN.d] 24)
        clear hgN hmo hb8 hmo8 ht8 hf8 ht7 hf7 hN7 hBo hB7 hB8 hmz5
        go_wp2_with fail
        generalize w8.alloc (.cells #[.int .u64 mN.q, .int .i64 mN.r, .int .i64 mN.k, .int .i64 mN.d] 24) = O2 at *
        generalize hXX : getM (N.take cut ++ P.drop cut) = mX at *
        generalize hEX : getE (N.take cut ++ P.drop cut) = eX at *
        have hgX := fun v W (hb : Bts W v (N.take cut ++ P.drop cut)) => mget_any v _ W hb hXb
        rw [hXX, hEX] at hgX
        go_cut [17, 18] (fun x17 x18 wc => ∃ xb : Nat, x17 = .pointer (some ⟨xb, 0, none⟩) ∧ x18 = .int .i64 eX ∧ MetaAt wc xb mX.q mX.r mX.k mX.d ∧ MetaAt wc w7.heap.size mP.q mP.r mP.k mP.d ∧ MetaAt wc w8.heap.size mN.q mN.r mN.k mN.d ∧ Below w.heap.size w wc)
        case first =>
          go_region_law (first
            | (refine stepApp rfl (.tmp 66) (.tmp 69) rfl O2.heap.size _ _ _ _ [] (N.take cut) rfl rfl (by first | exact own0 (heap1d O2 _) (by omega) | exact own0 (heap2 O2 _ _) (by omega) | exact own0 (heap2f O2 _ _) (by omega)) (by first | exact ht9.grow (bel1d _ _) | exact ht9.grow (bel2d _ _ _)) (by first | exact (bel1d O2 _).size | exact (bel2d O2 _ _).size) (by have := htl.out; simp only [List.length_nil]; omega) ?_; intro v9 w9 ho9 hb9 hgr9; rw [List.nil_append] at ho9; have hB9 : Below O2.heap.size O2 w9 := Below.trans (by first | exact bel1d _ _ | exact bel2d _ _ _) hb9; (first | (have hx9 : MetaAt w9 O2.heap.size 0 0 0 0 := MetaAt.keep (heap2f O2 _ _) (hgr9.block _ (by first | (simp; done) | (simp; omega)) (fun e => by have := own_slice e.symm; omega))) | (have hx9 : MetaAt w9 (O2.heap.size + 1) 0 0 0 0 := MetaAt.keep (heap2 O2 _ _) (hgr9.block _ (by first | (simp; done) | (simp; omega)) (fun e => by have := own_slice e.symm; omega))) | skip))
            | (refine stepApp rfl (.tmp 70) (.tmp 73) rfl O2.heap.size _ _ _ _ (N.take cut) (P.drop cut) rfl rfl (by first | exact ho9 | exact ho9.alloc _) (by first | exact hf9.grow hB9 | exact hf9.grow (hB9.alloc hB9.size _)) (by first | exact hB9.size | exact (hB9.alloc hB9.size _).size) (by have := hXl.out; omega) ?_; intro v10 w10 ho10 hb10 hgr10; have hB10 : Below O2.heap.size O2 w10 := Below.trans (by first | exact hB9 | exact hB9.alloc hB9.size _) hb10; (first | (have hx10 := meta_grown hx9 ho9 hgr10) | (have hx10 : MetaAt w10 w9.heap.size 0 0 0 0 := meta_grown (heap_alloc_new w9 _) (ho9.alloc _) hgr10) | skip))
            | (go_simp; go_at_call 10; refine (hgX _ _ (by first | exact ho10.bts | exact (ho10.alloc _).bts)).mono ?_; rintro e w11 ⟨rfl, hb11⟩; have hB11 : Below O2.heap.size O2 w11 := Below.trans (by first | exact hB10 | exact hB10.alloc hB10.size _) (hb11.mono (by first | exact hB10.size | exact (hB10.alloc hB10.size _).size)); (first | (have hx11 := hx10.keep (hb11.block _ hx10.lt)) | (have hx11 : MetaAt w11 w10.heap.size 0 0 0 0 := MetaAt.keep (heap_alloc_new w10 _) (hb11.block _ (by simp))) | skip); (first | (obtain ⟨e0, e1, e2, e3⟩ := hx11.cells; obtain ⟨k0, k1, k2, k3⟩ := hx11.frozen; have hlx := hx11.lt) | skip)))
          all_goals
            go_wp2_with fail
            go_meet
            case rel =>
              have hmo11 := hmo9.keep (hB11.block _ hmo9.lt)
              have hmf11 := hmf.keep (hB11.block _ hmf.lt)
              have hBw11 := hBf.trans (hB11.mono hBf.size)
              have l1 := hmo9.lt
              have l2 := hmf.lt
              have l3 := hB9.size
              have l4 := hB10.size
              have l5 := hBf.size
              first
                | exact ⟨_, rfl, rfl, metaSet hx11, hmo11.keep (setFour _ _ _ _ (by omega)), hmf11.keep (setFour _ _ _ _ (by omega)), belFour _ _ _ _ hBw11 (by omega)⟩
                | exact ⟨_, rfl, rfl, heap_alloc_new w11 _, hmo11.keep ((heap_alloc w11 _).2 _ hmo11.lt), hmf11.keep ((heap_alloc w11 _).2 _ hmf11.lt), hBw11.alloc hBw11.size _⟩
        case rest =>
          obtain ⟨xb, rfl, rfl, hxc, hoc, hfc, hBc⟩ := hcut
          obtain ⟨x0, x1, x2, x3⟩ := hxc.cells
          obtain ⟨y0, y1, y2, y3⟩ := hoc.cells
          obtain ⟨z0, z1, z2, z3⟩ := hfc.cells
          have hee : eX = 0 ∨ eX = 40 := by
            rw [← hEX]
            unfold getE
            split
            · exact .inl rfl
            · exact .inr rfl
          have hXM' := hXM.out
          clear hgX hXM hXX hEX ht9 hf9 hmo9 hmf hBf hst hsf hXb
          rcases hee with rfl | rfl
          · rcases hXM' with h | h | h
            · exact absurd h (by decide)
            · subst h
              go_wp2_with (first | (go_at_call 14; refine (num_any _ _ (by omega) (by omega)).mono ?_; rintro e w' ⟨rfl, hw'⟩; subst w') | (go_at_call 9; refine (live_any _).mono ?_; rintro e w12 ⟨rfl, hb12⟩))
              go_ret
              exact ⟨rfl, hBc.trans (hb12.mono hBc.size)⟩
            · subst h
              go_wp2_with (first | (go_at_call 14; refine (num_any _ _ (by omega) (by omega)).mono ?_; rintro e w' ⟨rfl, hw'⟩; subst w') | (go_at_call 9; refine (live_any _).mono ?_; rintro e w12 ⟨rfl, hb12⟩))
              all_goals
                go_ret
                exact ⟨rfl, hBc.trans (hb12.mono hBc.size)⟩
          · clear hXM'
            go_wp2_with (first | (go_at_call 14; refine (num_any _ _ (by omega) (by omega)).mono ?_; rintro e w' ⟨rfl, hw'⟩; subst w') | (go_at_call 9; refine (live_any _).mono ?_; rintro e w12 ⟨rfl, hb12⟩))
            go_ret
            exact ⟨rfl, hBc.trans (hb12.mono hBc.size)⟩
    | true =>
      replace hmz : (Instr.makeSlice 25 (.int .i64 64) (.int .i64 64)).run Tryd.prog w5 = .ok (.slice (some ⟨w5.heap.size, 0, none⟩) 64 64) w6 := hmz
      go_wp2_with (first | (at_builtin; refine Lib.wpList_append_run _ rfl _ _ 25 3 rfl (.slice (some ⟨b4, 0, none⟩) 36 36) (.int .i64 28) rfl rfl v5 w5 (hz5.out _) ?_))
      have hP64 : (zeros 64).length = 64 := by simp [zeros]
      have hbP : Bts w6 (.slice (some ⟨w5.heap.size, 0, none⟩) 64 64) (zeros 64) := by
        have := hrz.bts
        rwa [hP64] at this
      have hbNc := hbN.grow hbz
      have hBc := hB5.trans (hbz.mono hB5.size)
      have hPb := isBytes_zeros 64
      have htX := htZ
      have hmz5 := hmz
      generalize zeros 64 = P at *
      obtain ⟨aN, cN, hvN⟩ : ∃ ad c, v5 = .slice (some ad) 64 c := by
        obtain ⟨a, c, e, _, h⟩ := hbNc
        rcases h with h | ⟨b, o, rfl, _⟩
        · rw [h] at hNl; simp at hNl
        · exact ⟨_, c, by rw [e, hNl]⟩
      subst hvN
      as_aux_lemma =>
        obtain ⟨at2, mt2, ct2, hst, hbt⟩ := to_some hbNc cut (by omega)
        obtain ⟨af2, mf2, cf2, hsf, hbf⟩ := from_some hbP cut (by omega)
        refine (mget_any _ P _ hbP hPb).mono ?_
        rintro e w7 ⟨rfl, hb7⟩
        have hB7 := hBc.trans (hb7.mono hBc.size)
        have hN7 := hbNc.grow hb7
        have ht7 := hbt.grow hb7
        have hf7 := hbf.grow hb7
        have hXM : Hid (getE (N.take cut ++ P.drop cut) = 40 ∨ getM (N.take cut ++ P.drop cut) = getM P ∨ getM (N.take cut ++ P.drop cut) = getM N) := by
          show _ ∨ _
          cases hm : isMeta (N.take cut ++ P.drop cut) with
          | false => left; unfold getE; rw [hm]; rfl
          | true =>
            right
            rcases htX.out hm with e | e
            · left; rw [e]
            · right; rw [e]
        have hXb : IsBytes (N.take cut ++ P.drop cut) := isBytes_append (hNb.take cut) (hPb.drop cut)
        have hXl : Hid ((N.take cut).length + (P.drop cut).length ≤ 1000) := by show _ ≤ _; simp; omega
        have htl : Hid ((N.take cut).length ≤ 1000) := by show _ ≤ _; simp; omega
        clear htX hbt hbf hbP hPb hb7 hBc hbNc
        generalize getM P = mP at *
        generalize getE P = eP at *
        have hmo : MetaAt (w7.alloc (.cells #[.int .u64 mP.q, .int .i64 mP.r, .int .i64 mP.k, .int .i64 mP.d] 24)) w7.heap.size mP.q mP.r mP.k mP.d := heap_alloc_new w7 _
        have hgN := mget_any _ N (w7.alloc (.cells #[.int .u64 mP.q, .int .i64 mP.r, .int .i64 mP.k, .int .i64 mP.d] 24)) (hN7.alloc _) hNb
        generalize hMN : getM N = mN at *
        generalize getE N = eN at *
        have hBo := hB7.alloc hB7.size (.cells #[.int .u64 mP.q, .int .i64 mP.r, .int .i64 mP.k, .int .i64 mP.d] 24)
        go_wp2_with fail
        refine hgN.mono ?_
        rintro e w8 ⟨rfl, hb8⟩
        have hB8 := hBo.trans (hb8.mono hBo.size)
        have hmo8 := hmo.keep (hb8.block _ hmo.lt)
        have ht8 := (ht7.alloc (.cells #[.int .u64 mP.q, .int .i64 mP.r, .int .i64 mP.k, .int .i64 mP.d] 24)).grow hb8
        have hf8 := (hf7.alloc (.cells #[.int .u64 mP.q, .int .i64 mP.r, .int .i64 mP.k, .int .i64 mP.d] 24)).grow hb8
        have hmf : MetaAt (w8.alloc (.cells #[.int .u64 mN.q, .int .i64 mN.r, .int .i64 mN.k, .int .i64 mN.d] 24)) w8.heap.size mN.q mN.r mN.k mN.d := heap_alloc_new w8 _
        have hmo9 := hmo8.keep ((heap_alloc w8 (.cells #[.int .u64 mN.q, .int .i64 mN.r, .int .i64 mN.k, .int .i64 mN.d] 24)).2 _ hmo8.lt)
        have hBf := hB8.alloc hB8.size (.cells #[.int .u64 mN.q, .int .i64 mN.r, .int .i64 mN.k, .int .i64 mN.d] 24)
        have ht9 := ht8.alloc (.cells #[.int .u64 mN.q, .int .i64 mN.r, .int .i64 mN.k, .int .i64 mN.d] 24)
        have hf9 := hf8.alloc (.cells #[.int .u64 mN.q, .int .i64 mN.r, .int .i64 mN.k, .int .i64 mN.d] 24)
        clear hgN hmo hb8 hmo8 ht8 hf8 ht7 hf7 hN7 hBo hB7 hB8 hmz5
        go_wp2_with fail
        generalize w8.alloc (.cells #[.int .u64 mN.q, .int .i64 mN.r, .int .i64 mN.k, .int .i64 mN.d] 24) = O2 at *
        generalize hXX : getM (N.take cut ++ P.drop cut) = mX at *
        generalize hEX : getE (N.take cut ++ P.drop cut) = eX at *
        have hgX := fun v W (hb : Bts W v (N.take cut ++ P.drop cut)) => mget_any v _ W hb hXb
        rw [hXX, hEX] at hgX
        go_cut [17, 18] (fun x17 x18 wc => ∃ xb : Nat, x17 = .pointer (some ⟨xb, 0, none⟩) ∧ x18 = .int .i64 eX ∧ MetaAt wc xb mX.q mX.r mX.k mX.d ∧ MetaAt wc w7.heap.size mP.q mP.r mP.k mP.d ∧ MetaAt wc w8.heap.size mN.q mN.r mN.k mN.d ∧ Below w.heap.size w wc)
        case first =>
          go_region_law (first
            | (refine stepApp rfl (.tmp 66) (.tmp 69) rfl O2.heap.size _ _ _ _ [] (N.take cut) rfl rfl (by first | exact own0 (heap1d O2 _) (by omega) | exact own0 (heap2 O2 _ _) (by omega) | exact own0 (heap2f O2 _ _) (by omega)) (by first | exact ht9.grow (bel1d _ _) | exact ht9.grow (bel2d _ _ _)) (by first | exact (bel1d O2 _).size | exact (bel2d O2 _ _).size) (by have := htl.out; simp only [List.length_nil]; omega) ?_; intro v9 w9 ho9 hb9 hgr9; rw [List.nil_append] at ho9; have hB9 : Below O2.heap.size O2 w9 := Below.trans (by first | exact bel1d _ _ | exact bel2d _ _ _) hb9; (first | (have hx9 : MetaAt w9 O2.heap.size 0 0 0 0 := MetaAt.keep (heap2f O2 _ _) (hgr9.block _ (by first | (simp; done) | (simp; omega)) (fun e => by have := own_slice e.symm; omega))) | (have hx9 : MetaAt w9 (O2.heap.size + 1) 0 0 0 0 := MetaAt.keep (heap2 O2 _ _) (hgr9.block _ (by first | (simp; done) | (simp; omega)) (fun e => by have := own_slice e.symm; omega))) | skip))
            | (refine stepApp rfl (.tmp 70) (.tmp 73) rfl O2.heap.size _ _ _ _ (N.take cut) (P.drop cut) rfl rfl (by first | exact ho9 | exact ho9.alloc _) (by first | exact hf9.grow hB9 | exact hf9.grow (hB9.alloc hB9.size _)) (by first | exact hB9.size | exact (hB9.alloc hB9.size _).size) (by have := hXl.out; omega) ?_; intro v10 w10 ho10 hb10 hgr10; have hB10 : Below O2.heap.size O2 w10 := Below.trans (by first | exact hB9 | exact hB9.alloc hB9.size _) hb10; (first | (have hx10 := meta_grown hx9 ho9 hgr10) | (have hx10 : MetaAt w10 w9.heap.size 0 0 0 0 := meta_grown (heap_alloc_new w9 _) (ho9.alloc _) hgr10) | skip))
            | (go_simp; go_at_call 10; refine (hgX _ _ (by first | exact ho10.bts | exact (ho10.alloc _).bts)).mono ?_; rintro e w11 ⟨rfl, hb11⟩; have hB11 : Below O2.heap.size O2 w11 := Below.trans (by first | exact hB10 | exact hB10.alloc hB10.size _) (hb11.mono (by first | exact hB10.size | exact (hB10.alloc hB10.size _).size)); (first | (have hx11 := hx10.keep (hb11.block _ hx10.lt)) | (have hx11 : MetaAt w11 w10.heap.size 0 0 0 0 := MetaAt.keep (heap_alloc_new w10 _) (hb11.block _ (by simp))) | skip); (first | (obtain ⟨e0, e1, e2, e3⟩ := hx11.cells; obtain ⟨k0, k1, k2, k3⟩ := hx11.frozen; have hlx := hx11.lt) | skip)))
          all_goals
            go_wp2_with fail
            go_meet
            case rel =>
              have hmo11 := hmo9.keep (hB11.block _ hmo9.lt)
              have hmf11 := hmf.keep (hB11.block _ hmf.lt)
              have hBw11 := hBf.trans (hB11.mono hBf.size)
              have l1 := hmo9.lt
              have l2 := hmf.lt
              have l3 := hB9.size
              have l4 := hB10.size
              have l5 := hBf.size
              first
                | exact ⟨_, rfl, rfl, metaSet hx11, hmo11.keep (setFour _ _ _ _ (by omega)), hmf11.keep (setFour _ _ _ _ (by omega)), belFour _ _ _ _ hBw11 (by omega)⟩
                | exact ⟨_, rfl, rfl, heap_alloc_new w11 _, hmo11.keep ((heap_alloc w11 _).2 _ hmo11.lt), hmf11.keep ((heap_alloc w11 _).2 _ hmf11.lt), hBw11.alloc hBw11.size _⟩
        case rest =>
          obtain ⟨xb, rfl, rfl, hxc, hoc, hfc, hBc⟩ := hcut
          obtain ⟨x0, x1, x2, x3⟩ := hxc.cells
          obtain ⟨y0, y1, y2, y3⟩ := hoc.cells
          obtain ⟨z0, z1, z2, z3⟩ := hfc.cells
          have hee : eX = 0 ∨ eX = 40 := by
            rw [← hEX]
            unfold getE
            split
            · exact .inl rfl
            · exact .inr rfl
          have hXM' := hXM.out
          clear hgX hXM hXX hEX ht9 hf9 hmo9 hmf hBf hst hsf hXb
          rcases hee with rfl | rfl
          · rcases hXM' with h | h | h
            · exact absurd h (by decide)
            · subst h
              go_wp2_with (first | (go_at_call 14; refine (num_any _ _ (by omega) (by omega)).mono ?_; rintro e w' ⟨rfl, hw'⟩; subst w') | (go_at_call 9; refine (live_any _).mono ?_; rintro e w12 ⟨rfl, hb12⟩))
              go_ret
              exact ⟨rfl, hBc.trans (hb12.mono hBc.size)⟩
            · subst h
              go_wp2_with (first | (go_at_call 14; refine (num_any _ _ (by omega) (by omega)).mono ?_; rintro e w' ⟨rfl, hw'⟩; subst w') | (go_at_call 9; refine (live_any _).mono ?_; rintro e w12 ⟨rfl, hb12⟩))
              all_goals
                go_ret
                exact ⟨rfl, hBc.trans (hb12.mono hBc.size)⟩
          · clear hXM'
            go_wp2_with (first | (go_at_call 14; refine (num_any _ _ (by omega) (by omega)).mono ?_; rintro e w' ⟨rfl, hw'⟩; subst w') | (go_at_call 9; refine (live_any _).mono ?_; rintro e w12 ⟨rfl, hb12⟩))
            go_ret
            exact ⟨rfl, hBc.trans (hb12.mono hBc.size)⟩
  · go_enter Tryd.func5, Tryd.ntmps5
    go_wp2_with (first | (go_at_call 9; refine (live_any _).mono ?_; rintro e w4 ⟨rfl, hb4⟩))
    all_goals first
      | (go_ret; exact ⟨rfl, (((Below.refl w.heap.size w).alloc (Nat.le_refl _) _).alloc (by simp) _).trans (hb4.mono (by simp; omega))⟩)
      | (exfalso; apply hok; omega)
/-! ### THE ROW's STEP -/
theorem own : ownKnob Tryd.prog.godebug = none := by kernel_rfl
theorem laidOut : laidOutB Tryd.prog = true := by kernel_rfl
set_option maxRecDepth 100000 in
theorem lifted (os : Os) (started : os.Started) (H : Type) (enc : TypeId × Value → H) :
    ReturnsInHanded {} Tryd.checked os 5 .any (fun w args => (Rows.metaTornSpec.pre enc Tryd.prog Tryd.f5 [] false w args ∧ laidMetH Tryd.prog laidV w) ∧ sizedMet enc Tryd.prog Tryd.f5 (OpenSpec.ofChange Rows.metaTornSpec) false w args)
      (Rows.metaTornSpec.post enc Tryd.prog Tryd.f5 false true false false) := by
  refine returnsInHanded_of_change_and (C := Tryd.checked) (X := fun w _ => laidMetH Tryd.prog laidV w) (fun _ _ _ hh h => h.of_heap hh) own started (by kernel_rfl) Tryd.func5
    (ChangeSpec.witness_shaped (enc := enc) (C := Tryd.checked) (os := os) (X := fun w _ => laidMetH Tryd.prog laidV w) false (World.laidAll Tryd.prog os laidV) #[.int .u64 0, .agg #[.int .u64 0, .int .i64 0, .int .i64 0, .int .i64 0], .agg #[.int .u64 0, .int .i64 0, .int .i64 0, .int .i64 0], .int .i64 0, .bool false] 8 (World.laidAll_os _ _ _)
      (World.shaped_of_ZipB (by kernel_rfl) (by kernel_rfl)) (by kernel_rfl) (by kernel_rfl) (by kernel_rfl) (laidV_ok os _)) ?_
  intro W base args ds gs before hval0 hW _ _ hL _
  have hval : ∀ (j : Nat) t v, Tryd.f5.params[j]? = some t → args[j]? = some v → Value.okWide Tryd.prog W .any base t v := hval0
  have hW' := hW
  obtain ⟨p, q, hA0, hV, rfl, _, _⟩ := hW
  have hA : DataW.TrodAll enc Tryd.prog W 0 (fun _ => true) true Tryd.f5.params.toList args.toList ds p := hA0
  rw [Tryd.params5] at hA hval
  obtain ⟨v0, vs0, d0, ds0, p0, q0, hargs, rfl, rfl, h0, r0⟩ := trodAll_cons hA
  obtain ⟨v1, vs1, d1, ds1, p1, q1, rfl, rfl, rfl, h1, r1⟩ := trodAll_cons r0
  obtain ⟨v2, vs2, d2, ds2, p2, q2, rfl, rfl, rfl, h2, r2⟩ := trodAll_cons r1
  obtain ⟨v3, vs3, d3, ds3, p3, q3, rfl, rfl, rfl, h3, r3⟩ := trodAll_cons r2
  obtain ⟨v4, vs4, d4, ds4, p4, q4, rfl, rfl, rfl, h4, r4⟩ := trodAll_cons r3
  obtain ⟨rfl, rfl, rfl⟩ := trodAll_nil r4
  obtain rfl : args = #[v0, v1, v2, v3, v4] := by cases args; simp_all
  obtain ⟨rfl, rfl⟩ := trodVars_none hV
  obtain ⟨a0, rfl, rfl, rfl, w0⟩ := open_int Tryd.underlying22 (hval 0 22 v0 rfl rfl) h0
  have k1 := h1
  have lt1 : ∀ x ∈ p1, x.block < W.heap.size := by obtain ⟨m, hm⟩ := k1; exact DataW.trod_lt m _ _ _ hm
  obtain ⟨q1', r1', k1', d1', rfl, b10, b11, b12, b13⟩ := meta_arg (hval 1 24 v1 rfl rfl) h1
  have k2 := h2
  have lt2 : ∀ x ∈ p2, x.block < W.heap.size := by obtain ⟨m, hm⟩ := k2; exact DataW.trod_lt m _ _ _ hm
  obtain ⟨q2', r2', k2', d2', rfl, b20, b21, b22, b23⟩ := meta_arg (hval 2 24 v2 rfl rfl) h2
  obtain ⟨a3, rfl, rfl, rfl, w3⟩ := open_int Tryd.underlying3 (hval 3 3 v3 rfl rfl) h3
  obtain ⟨a4, rfl, rfl, rfl⟩ := open_bool Tryd.underlying4 (hval 4 4 v4 rfl rfl) h4
  clear hA0 hval0 hL
  refine (walk a0 q1' r1' k1' d1' q2' r2' k2' d2' a3 a4 W w0 b10 b11 b12 b13 b20 b21 b22 b23 w3).mono fun e W' ⟨he, bel⟩ => ?_
  subst he
  exact ⟨_, rfl, _, _, _, [], _, [], hW', trodAll_mk1 (shut_bool Tryd.underlying4 _), (trodAll_cons_mk (shut_int Tryd.underlying22 w0) (trodAll_cons_mk (Below.trod laidOut (by kernel_rfl) (of_decide_eq_true (by kernel_rfl)) k1 bel lt1) (trodAll_cons_mk (Below.trod laidOut (by kernel_rfl) (of_decide_eq_true (by kernel_rfl)) k2 bel lt2) (trodAll_cons_mk (shut_int Tryd.underlying3 w3) (trodAll_cons_mk (shut_bool Tryd.underlying4 _) trodAll_mk0))))), rfl, bel.frame _, fun h => by cases h⟩

theorem over : Rows.MetaTornSaid :=
  OpenClaim.holds_of_wide 5 Tryd.f5 rfl rfl rfl rfl rfl rfl rfl ⟨rfl, rfl, rfl, rfl, rfl⟩ rfl rfl rfl rfl rfl (by kernel_rfl) Tryd.func5 (by kernel_rfl)
    (of_decide_eq_true (by kernel_rfl)) (by unfold Func.isWrapper; first | (rw [if_pos (by decide +kernel)]; kernel_rfl) | (rw [if_neg (by decide +kernel)]; exact ⟨rfl, rfl⟩))
    (fun os started H enc _ => lifted os started H enc)
end Go.Proofs.YtcgjolonapndgabDoor.metaTorn
namespace Go.Proofs.YtcgjolonapndgabDoor
open Go
/-- The card. -/
theorem metaTorn_card : Rows.MetaTornCardSaid :=
  Claim7.holds_tied_plain_at .later [] [.data, .pinned] true (true, "95dc7a7c040b1451739586a7f6944ef4aae404b000e64647a562c9b24fc2bce7") false metaTorn.over (fun _ h => by cases h) (by kernel_rfl) (fun _ h => by cases h) metaTorn_row_tie rfl ⟨rfl, rfl⟩ (by kernel_rfl) rfl
    (fun f fn hf hfn => by
      obtain rfl : f = 5 := Option.some.inj ((show Tryd.prog.funcNamed "klaxon/klaxonlaw04.MetaTorn" = some 5 by kernel_rfl).symm.trans hf) |>.symm
      obtain rfl : fn = Tryd.f5 := (Option.some.inj (Tryd.func5.symm.trans hfn)).symm
      exact ⟨by kernel_rfl, fun j t ht => by
        rw [Tryd.params5] at ht
        have hm : t ∈ [22, 24, 24, 3, 4] := by simpa using Array.mem_of_getElem? ht
        have hall : ([22, 24, 24, 3, 4].all fun u => !Tryd.prog.wantsStandIn u) = true := by kernel_rfl
        exact (show Tryd.prog.wantsStandIn t = false by simpa using List.all_eq_true.1 hall t hm)⟩)
    (by kernel_rfl)
#print axioms metaTorn_card
end Go.Proofs.YtcgjolonapndgabDoor
