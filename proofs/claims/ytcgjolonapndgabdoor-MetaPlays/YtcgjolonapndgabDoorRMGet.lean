/- The document's Get of metas. -/
import Derived.Test.YtcgjolonapndgabDoorRMPut
import Derived.Test.YtcgjolonapndgabDoorMTrn
namespace Go.Proofs.YtcgjolonapndgabDoor
set_option linter.unusedVariables false
open Go.RowKit Go.Maps Go.ChangeMaps Go.MapKept
theorem np {Q : Exit → Act → World → Prop} (d : Option Tmp) (v : Value) : ∀ c a w, NoPanic Q (.panic c) (a.put d v) w → NoPanic Q (.panic c) a w := fun _ _ _ h => False.elim h
section
variable {P : Program} {ops : Array Oper} {Q : Exit → Act → World → Prop} {md : Region.Mode} {S : World → Prop}
/-- An operation of a drawn region that yields in every world that meets S. -/
theorem takeW {i : Nat} {oi : Oper} {v : Value} {fuel : Nat} {listed : Array Bool} {a : Act} {w : World} (d : Option Tmp) (hi : ops[i]? = some oi) (hd : oi.dst = d)
    (hs : Region.noSelect ops = true) (hf : Region.free md ops listed i = true) (hr : (Region.ready md ops listed).contains i = true)
    (hw : Region.wanted oi (yielded ops a.tmps) = true) (hS : S w) (hy : ∀ w, S w → (execOp a.eval oi).run P w = .ok (.value v) w)
    (h : wpAnyH P md ops (NoPanic Q) S fuel (listed.setIfInBounds i true) (a.put d v) w) : wpAnyH P md ops (NoPanic Q) S (fuel + 1) listed a w := by
  subst hd
  exact wpAnyH_take hi hs hf hr (np _ _) (Or.inl ⟨hw, hy⟩) hS h
/-- An operation of a drawn region whose guard shuts it out. -/
theorem skipW {i : Nat} {oi : Oper} {fuel : Nat} {listed : Array Bool} {a : Act} {w : World} (d : Option Tmp) (hi : ops[i]? = some oi) (hd : oi.dst = d)
    (hs : Region.noSelect ops = true) (hf : Region.free md ops listed i = true) (hr : (Region.ready md ops listed).contains i = true)
    (hw : Region.wanted oi (yielded ops a.tmps) = false) (hS : S w)
    (h : wpAnyH P md ops (NoPanic Q) S fuel (listed.setIfInBounds i true) (a.put d undef) w) : wpAnyH P md ops (NoPanic Q) S (fuel + 1) listed a w := by
  subst hd
  exact wpAnyH_take hi hs hf hr (np _ _) (Or.inr ⟨hw, rfl⟩) hS h
end
set_option maxRecDepth 100000 in
set_option maxHeartbeats 1000000 in
theorem rmget_short (s : ByteArray) (w : World) (h : (s.size : Int) < 36) :
    Calls Tryd.prog 11 #[.string s] w fun e w' => e = .returned (.tuple #[.agg #[.int .u64 0, .int .i64 0, .int .i64 0, .int .i64 0], .int .i64 40]) ∧ Below w.heap.size w w' := by
  go_enter Tryd.func11, Tryd.ntmps11
  go_wp2_with fail
  exact bodyPost_ret (v := .tuple #[.agg #[.int .u64 0, .int .i64 0, .int .i64 0, .int .i64 0], .int .i64 40]) (by simp [results, Tryd.results11, go_sem]) rfl ⟨rfl, (Below.refl _ _).alloc (Nat.le_refl _) _⟩
/-- What told tells of a part. -/
def toldAt (bs : List Int) (i j : Nat) : Nat := ofBe ((bs.drop i).take (j - i))
theorem keysI_ok (bs : List Int) (h : keysOf bs < 2 ^ 64) : (0 ≤ keysI bs ∧ keysI bs ≤ 2147483647) ↔ keysOf bs ≤ 2147483647 := by
  unfold keysI
  rw [IntKind.wrap_i64]
  omega
set_option maxRecDepth 100000 in
set_option maxHeartbeats 4000000 in
theorem rmget_main (bs : List Int) (s : ByteArray) (hs : Hid (s = strOfNums bs)) (w : World) (hby : IsBytes bs) (h1 : 36 ≤ bs.length) (h2 : bs.length ≤ 1000000) :
    Calls Tryd.prog 11 #[.string s] w fun e w' => (isMeta bs = false → e = .returned (.tuple #[.agg #[.int .u64 0, .int .i64 0, .int .i64 0, .int .i64 0], .int .i64 40])) ∧ (isMeta bs = true → e = .returned (.tuple #[.agg #[.int .u64 (seqOf bs), .int .i64 (rootOf bs), .int .i64 (keysI bs), .int .i64 (depthOf bs)], .int .i64 0])) ∧ Below w.heap.size w w' := by
  have hsz : s.size = bs.length := by rw [hs.out]; exact str_size bs
  have hget : Hid (∀ (k : Nat) (h : k < s.size), ((s[k]).toNat : Int) = bs.getD k 0) := by
    show ∀ k, _
    rw [hs.out]; exact fun k h => str_get bs hby k h
  have hT : ∀ i j W, i ≤ j → j ≤ bs.length → j ≤ i + 8 → Calls Tryd.prog 34 #[.string (s.extract i j)] W fun e w' => e = .returned (.int .u64 (toldAt bs i j)) ∧ w' = W := by
    intro i j W h1 h2 h3
    refine told_any ((bs.drop i).take (j - i)) _ ?_ W ((hby.drop i).take _) (by simp; omega)
    show _ = _
    rw [← strs_cut, show i + (j - i) = j by omega, hs.out]
  have hl0 := ofBe_lt ((bs.drop 0).take 8) ((hby.drop 0).take 8)
  have hl1 := ofBe_lt ((bs.drop 8).take 4) ((hby.drop 8).take 4)
  have hl2 := ofBe_lt ((bs.drop 12).take 8) ((hby.drop 12).take 8)
  have hl3 := ofBe_lt ((bs.drop 20).take 4) ((hby.drop 20).take 4)
  rw [show ((bs.drop 0).take 8).length = 8 by simp; omega] at hl0
  rw [show ((bs.drop 8).take 4).length = 4 by simp; omega] at hl1
  rw [show ((bs.drop 12).take 8).length = 8 by simp; omega] at hl2
  rw [show ((bs.drop 20).take 4).length = 4 by simp; omega] at hl3
  replace hl0 : seqOf bs < 2 ^ 64 := hl0
  replace hl1 : rootOf bs < 2 ^ 32 := hl1
  replace hl2 : keysOf bs < 2 ^ 64 := hl2
  replace hl3 : depthOf bs < 2 ^ 32 := hl3
  have hkk := keysI_ok bs hl2
  have hP : Hid (isMeta bs = decide ((seqOf bs ≠ 0 ∧ rootOf bs ≤ 16384 ∧ keysOf bs ≤ 2147483647 ∧ depthOf bs ≤ 64) ∧ metaB (seqOf bs) (rootOf bs) (keysI bs) (depthOf bs) = bs.take 36 ∧ ∀ x ∈ bs.drop 36, x = 0)) := by
    show _ = _
    unfold isMeta
    rw [decide_eq_decide]
    constructor
    · rintro ⟨_, ⟨a1, a2, a3, a4, a5, a6, a7⟩, a8, a9⟩
      exact ⟨⟨a1, by omega, hkk.1 ⟨a4, a5⟩, by omega⟩, a8, a9⟩
    · rintro ⟨⟨a1, a2, a3, a4⟩, a8, a9⟩
      have := hkk.2 a3
      exact ⟨h1, ⟨a1, by omega, by omega, this.1, this.2, by omega, by omega⟩, a8, a9⟩
  have hkw : keysOf bs ≤ 2147483647 → IntKind.i64.wrap ((keysOf bs : Nat) : Int) = keysI bs := fun _ => rfl
  have hki : keysOf bs ≤ 2147483647 → keysI bs = (keysOf bs : Int) := fun h => by unfold keysI; rw [IntKind.wrap_i64]; omega
  have tt0 : toldAt bs 0 8 = seqOf bs := rfl
  have tt1 : toldAt bs 8 12 = rootOf bs := rfl
  have tt2 : toldAt bs 12 20 = keysOf bs := rfl
  have tt3 : toldAt bs 20 24 = depthOf bs := rfl
  have hmp := fun W => rmput_any (seqOf bs) (rootOf bs) (keysI bs) (depthOf bs) W hl0
  have hMb := metaB_bytes (seqOf bs) (rootOf bs) (keysI bs) (depthOf bs)
  have hq : ((strOfNums (metaB (seqOf bs) (rootOf bs) (keysI bs) (depthOf bs))).toList == (s.extract 0 36).toList) = decide (metaB (seqOf bs) (rootOf bs) (keysI bs) (depthOf bs) = bs.take 36) := by
    have : s.extract 0 36 = strOfNums (bs.take 36) := by
      rw [hs.out]
      have := strs_cut bs 0 36
      simpa using this
    rw [this]
    exact str_beq hMb (hby.take 36)
  generalize seqOf bs = Q at *
  generalize rootOf bs = R at *
  generalize keysI bs = K at *
  generalize keysOf bs = KN at *
  generalize depthOf bs = D at *
  generalize toldAt bs = tv at *
  generalize metaB Q R K D = MB at *
  generalize strOfNums MB = SP at *
  generalize isMeta bs = PG at *
  replace hq : Hid _ := hq
  have hB0 : Below w.heap.size w (w.alloc (.cells #[.int .u64 0, .int .i64 0, .int .i64 0, .int .i64 0] 24)) := (Below.refl _ _).alloc (Nat.le_refl _) _
  have hr0 : MetaAt (w.alloc (.cells #[.int .u64 0, .int .i64 0, .int .i64 0, .int .i64 0] 24)) w.heap.size 0 0 0 0 := heap_alloc_new w _
  have hs1 : (36 : Int) ≤ (bs.length : Int) := by omega
  go_enter Tryd.func11, Tryd.ntmps11
  go_wp2_with fail
  generalize w.alloc (.cells #[.int .u64 0, .int .i64 0, .int .i64 0, .int .i64 0] 24) = W0 at *
  obtain ⟨r0, r1, r2, r3⟩ := hr0.cells
  obtain ⟨f0, f1, f2, f3⟩ := hr0.frozen
  go_loop [4] (fun i => ∃ k : Nat, 36 ≤ k ∧ k ≤ bs.length ∧ i = .int .i64 k ∧ Hid (∀ t, 36 ≤ t → t < k → bs.getD t 0 = 0)) (fun i => bs.length - (intOf i).toNat)
  case atStart => exact ⟨36, by omega, h1, rfl, fun t h1 h2 => by omega⟩
  case round =>
    obtain ⟨k, hk, hkl, rfl, hz⟩ := hrel
    by_cases hlt : k < bs.length
    · have hgk : ((s[k]'(by omega)).toNat : Int) = bs.getD k 0 := hget.out k (by omega)
      have hcb := hby _ (getD_mem bs 0 k hlt)
      have hki' : (k : Int) < (bs.length : Int) := by omega
      by_cases hx : bs.getD k 0 = 0
      · have hzz : Hid (∀ t, 36 ≤ t → t < k + 1 → bs.getD t 0 = 0) := fun t a b => by
          by_cases e : t = k
          · rw [e]; exact hx
          · exact hz.out t a (by omega)
        rw [hx] at hgk
        clear hT hmp
        go_wp2_with fail
        go_round
        case rel => exact ⟨k + 1, by omega, by omega, by go_num, hzz⟩
        case measure => simp [intOf]; omega
      · have hF : Hid (PG = false) := by
          show _ = _
          rw [hP.out]
          refine decide_eq_false fun h => hx (h.2.2 _ ?_)
          have := List.getElem_mem (l := bs.drop 36) (n := k - 36) (by simp; omega)
          simp only [List.getElem_drop, show 36 + (k - 36) = k by omega] at this
          simpa [hlt] using this
        have hne : (bs.getD k 0 == 0) = false := by simpa using hx
        generalize bs.getD k 0 = x at *
        clear hT hmp
        go_wp2_with fail
        exact bodyPost_ret (v := .tuple #[.agg #[.int .u64 0, .int .i64 0, .int .i64 0, .int .i64 0], .int .i64 40]) (by simp [results, Tryd.results11, go_sem, r0, r1, r2, r3]) rfl ⟨fun _ => rfl, (fun h => by rw [hF.out] at h; cases h), belFour _ _ _ _ hB0 (Nat.le_refl _)⟩
    · obtain rfl : k = bs.length := by omega
      have hZ : Hid (∀ x ∈ bs.drop 36, x = 0) := fun x hx => by
        obtain ⟨t, ht, rfl⟩ := List.mem_iff_getElem.1 hx
        have := hz.out (36 + t) (by omega) (by simp at ht; omega)
        simp at ht
        simpa [show 36 + t < bs.length by omega] using this
      clear hz hget
      have e8 : (8 : Int) ≤ (bs.length : Int) := by omega
      have e12 : (12 : Int) ≤ (bs.length : Int) := by omega
      have e20 : (20 : Int) ≤ (bs.length : Int) := by omega
      have e24 : (24 : Int) ≤ (bs.length : Int) := by omega
      have hwR : IntKind.i64.wrap (R : Int) = R := by rw [IntKind.wrap_i64]; omega
      have hwD : IntKind.i64.wrap (D : Int) = D := by rw [IntKind.wrap_i64]; omega
      have m0 : ∀ W : World, MetaAt (W.alloc (.cells #[.int .u64 Q, .int .i64 R, .int .i64 K, .int .i64 D] 24)) W.heap.size Q R K D := fun W => heap_alloc_new W _
      go_wp2_with fail
      go_region_held3 (fun _ => True) (trivial) (first | (go_at_call 34; refine (hT _ _ _ (by omega) (by omega) (by omega)).mono ?_; rintro e w' ⟨rfl, hw'⟩; subst w'))
      by_cases gR : 16384 < R
      · have gRi : (16384 : Int) < (R : Int) := by omega
        have hF : Hid (PG = false) := by
          show _ = _
          rw [hP.out]
          exact decide_eq_false fun h => by have := h.1.2.1; omega
        clear hT hmp
        go_wp2_with fail
        exact bodyPost_ret (v := .tuple #[.agg #[.int .u64 0, .int .i64 0, .int .i64 0, .int .i64 0], .int .i64 40]) (by simp [results, Tryd.results11, go_sem, r0, r1, r2, r3]) rfl ⟨fun _ => rfl, (fun h => by rw [hF.out] at h; cases h), belFour _ _ _ _ hB0.drew (Nat.le_refl _)⟩
      · have gRi : decide ((16384 : Int) < (R : Int)) = false := by simp; omega
        by_cases gK : 2147483647 < KN
        · have gKi : (2147483647 : Int) < (KN : Int) := by omega
          have hF : Hid (PG = false) := by
            show _ = _
            rw [hP.out]
            exact decide_eq_false fun h => by have := h.1.2.2.1; omega
          clear hT hmp
          go_wp2_with fail
          exact bodyPost_ret (v := .tuple #[.agg #[.int .u64 0, .int .i64 0, .int .i64 0, .int .i64 0], .int .i64 40]) (by simp [results, Tryd.results11, go_sem, r0, r1, r2, r3]) rfl ⟨fun _ => rfl, (fun h => by rw [hF.out] at h; cases h), belFour _ _ _ _ hB0.drew (Nat.le_refl _)⟩
        · have gKi : decide ((2147483647 : Int) < (KN : Int)) = false := by simp; omega
          by_cases gD : 64 < D
          · have gDi : (64 : Int) < (D : Int) := by omega
            have hF : Hid (PG = false) := by
              show _ = _
              rw [hP.out]
              exact decide_eq_false fun h => by have := h.1.2.2.2; omega
            clear hT hmp
            go_wp2_with fail
            exact bodyPost_ret (v := .tuple #[.agg #[.int .u64 0, .int .i64 0, .int .i64 0, .int .i64 0], .int .i64 40]) (by simp [results, Tryd.results11, go_sem, r0, r1, r2, r3]) rfl ⟨fun _ => rfl, (fun h => by rw [hF.out] at h; cases h), belFour _ _ _ _ hB0.drew (Nat.le_refl _)⟩
          · have gDi : decide ((64 : Int) < (D : Int)) = false := by simp; omega
            have hKN : KN ≤ 2147483647 := by omega
            have hKw := hkw hKN
            have hlt0 := hr0.lt
            have hB1 := fun o => (hB0.drew.alloc hB0.size o)
            have hr1 : ∀ o, MetaAt (W0.drew.alloc o) w.heap.size 0 0 0 0 := fun o => hr0.keep ((heap_alloc W0.drew o).2 _ hr0.lt)
            go_upto_region 12 with (first | (go_at_call 34; refine (hT _ _ _ (by omega) (by omega) (by omega)).mono ?_; rintro e w' ⟨rfl, hw'⟩; subst w'))
            clear hT
            obtain rfl : K = (KN : Int) := hki hKN
            have hB2 : Below w.heap.size w (W0.alloc (.cells #[.int .u64 Q, .int .i64 R, .int .i64 KN, .int .i64 D] 24)).drew := (hB0.alloc hB0.size _).drew
            have hr2 : MetaAt (W0.alloc (.cells #[.int .u64 Q, .int .i64 R, .int .i64 KN, .int .i64 D] 24)).drew w.heap.size 0 0 0 0 := hr0.keep ((heap_alloc W0 _).2 _ hr0.lt)
            have hx2 : MetaAt (W0.alloc (.cells #[.int .u64 Q, .int .i64 R, .int .i64 KN, .int .i64 D] 24)).drew W0.heap.size Q R KN D := heap_alloc_new W0 _
            generalize (W0.alloc (.cells #[.int .u64 Q, .int .i64 R, .int .i64 KN, .int .i64 D] 24)).drew = W2 at *
            clear hB1 hr1 m0 hB0 hr0 r0 r1 r2 r3 f0 f1 f2 f3
            obtain ⟨r0, r1, r2, r3⟩ := hr2.cells
            obtain ⟨f0, f1, f2, f3⟩ := hr2.frozen
            obtain ⟨x0, x1, x2, x3⟩ := hx2.cells
            generalize W0.heap.size = xb at *
            by_cases gQ : Q = 0
            · have hF : Hid (PG = false) := by
                show _ = _
                rw [hP.out]
                exact decide_eq_false fun h => h.1.1 gQ
              subst gQ
              clear hmp
              have x0' : W2.cell? ⟨xb, 0, none⟩ = some (.int .u64 0) := x0
              refine wp_region_noPanic ?_
              refine wp_region_held_drew (S := fun W => W.cell? ⟨xb, 0, none⟩ = some (.int .u64 0)) (by kernel_rfl) x0' (fun hHeld => ?_)
              have hSd : (fun W : World => W.cell? ⟨xb, 0, none⟩ = some (.int .u64 0)) W2.drew := x0'
              refine takeW (i := 0) (v := ?_) (some 54) rfl (by kernel_rfl) (by kernel_rfl) (by kernel_rfl) (by kernel_rfl) (by kernel_rfl) (by assumption) ?_ ?_
              rotate_left
              · intro w hSw; (try dsimp only at hSw); go_simp; try with_reducible rfl
              try simp only [Act.put, List.setIfInBounds_toArray, List.set_cons_zero, List.set_cons_succ]
              refine takeW (i := 1) (v := ?_) (some 55) rfl (by kernel_rfl) (by kernel_rfl) (by kernel_rfl) (by kernel_rfl) (by kernel_rfl) (by assumption) ?_ ?_
              rotate_left
              · intro w hSw; (try dsimp only at hSw); go_simp; try with_reducible rfl
              try simp only [Act.put, List.setIfInBounds_toArray, List.set_cons_zero, List.set_cons_succ]
              refine takeW (i := 2) (v := ?_) (some 56) rfl (by kernel_rfl) (by kernel_rfl) (by kernel_rfl) (by kernel_rfl) (by kernel_rfl) (by assumption) ?_ ?_
              rotate_left
              · intro w hSw; (try dsimp only at hSw); go_simp; try with_reducible rfl
              try simp only [Act.put, List.setIfInBounds_toArray, List.set_cons_zero, List.set_cons_succ]
              refine takeW (i := 3) (v := ?_) (some 57) rfl (by kernel_rfl) (by kernel_rfl) (by kernel_rfl) (by kernel_rfl) (by kernel_rfl) (by assumption) ?_ ?_
              rotate_left
              · intro w hSw; (try dsimp only at hSw); go_simp; try with_reducible rfl
              try simp only [Act.put, List.setIfInBounds_toArray, List.set_cons_zero, List.set_cons_succ]
              refine skipW (i := 4) (some 58) rfl (by kernel_rfl) (by kernel_rfl) (by kernel_rfl) (by kernel_rfl) (by kernel_rfl) (by assumption) ?_
              try simp only [Act.put, List.setIfInBounds_toArray, List.set_cons_zero, List.set_cons_succ]
              refine skipW (i := 5) (some 59) rfl (by kernel_rfl) (by kernel_rfl) (by kernel_rfl) (by kernel_rfl) (by kernel_rfl) (by assumption) ?_
              try simp only [Act.put, List.setIfInBounds_toArray, List.set_cons_zero, List.set_cons_succ]
              refine skipW (i := 6) (some 60) rfl (by kernel_rfl) (by kernel_rfl) (by kernel_rfl) (by kernel_rfl) (by kernel_rfl) (by assumption) ?_
              try simp only [Act.put, List.setIfInBounds_toArray, List.set_cons_zero, List.set_cons_succ]
              refine skipW (i := 7) (some 61) rfl (by kernel_rfl) (by kernel_rfl) (by kernel_rfl) (by kernel_rfl) (by kernel_rfl) (by assumption) ?_
              try simp only [Act.put, List.setIfInBounds_toArray, List.set_cons_zero, List.set_cons_succ]
              refine skipW (i := 8) (some 62) rfl (by kernel_rfl) (by kernel_rfl) (by kernel_rfl) (by kernel_rfl) (by kernel_rfl) (by assumption) ?_
              try simp only [Act.put, List.setIfInBounds_toArray, List.set_cons_zero, List.set_cons_succ]
              refine takeW (i := 9) (v := ?_) (some 63) rfl (by kernel_rfl) (by kernel_rfl) (by kernel_rfl) (by kernel_rfl) (by kernel_rfl) (by assumption) ?_ ?_
              rotate_left
              · intro w hSw; (try dsimp only at hSw); go_simp; try with_reducible rfl
              try simp only [Act.put, List.setIfInBounds_toArray, List.set_cons_zero, List.set_cons_succ]
              refine wpAnyH_done (by kernel_rfl) ?_ _
              refine NoPanic.normal ?_
              clear hHeld hSd
              go_wp2_with fail
              exact bodyPost_ret (v := .tuple #[.agg #[.int .u64 0, .int .i64 0, .int .i64 0, .int .i64 0], .int .i64 40]) (by simp [results, Tryd.results11, go_sem, r0, r1, r2, r3]) rfl ⟨fun _ => rfl, (fun h => by rw [hF.out] at h; cases h), belFour _ _ _ _ hB2.drew (Nat.le_refl _)⟩
            · have gQi : ((Q : Int) == 0) = false := by simp; exact gQ
              go_region_held3 (fun W => W.cell? ⟨xb, 0, none⟩ = some (.int .u64 Q) ∧ W.cell? ⟨xb, 1, none⟩ = some (.int .i64 R) ∧ W.cell? ⟨xb, 2, none⟩ = some (.int .i64 KN) ∧ W.cell? ⟨xb, 3, none⟩ = some (.int .i64 D)) (first | exact hx2.cells | exact hx3.cells) (first | (go_at_call 13; refine (hmp _).mono ?_; rintro e w3 ⟨rfl, hb3⟩; have hx3 : MetaAt w3 xb Q R KN D := hx2.keep (hb3.block _ hx2.lt); have hr3 : MetaAt w3 w.heap.size 0 0 0 0 := hr2.keep (hb3.block _ hr2.lt)))
              obtain ⟨a0, a1, a2, a3⟩ := hr3.cells
              obtain ⟨b0, b1, b2, b3⟩ := hr3.frozen
              obtain ⟨c0, c1, c2, c3⟩ := hx3.cells
              have hB3 := hB2.drew.trans (hb3.mono hB2.size)
              replace hq := hq.out
              by_cases hE : MB = bs.take 36
              · have hdE : decide (MB = bs.take 36) = true := decide_eq_true hE
                have hF : Hid (PG = true) := by
                  show _ = _
                  rw [hP.out]
                  exact decide_eq_true ⟨⟨gQ, by omega, hKN, by omega⟩, hE, hZ.out⟩
                rw [hdE] at hq
                have hqn : (!(SP.toList == (s.extract 0 36).toList)) = false := by rw [hq]; rfl
                clear hE hdE
                go_wp2_with fail
                all_goals first | (rename_i hh; rw [hqn] at hh; cases hh; done) | exact bodyPost_ret (v := .tuple #[.agg #[.int .u64 Q, .int .i64 R, .int .i64 KN, .int .i64 D], .int .i64 0]) (by simp [results, Tryd.results11, go_sem, a0, a1, a2, a3]) rfl ⟨(fun h => by rw [hF.out] at h; cases h), fun _ => rfl, belFour _ _ _ _ hB3 (Nat.le_refl _)⟩
              · have hdE : decide (MB = bs.take 36) = false := decide_eq_false hE
                have hF : Hid (PG = false) := by
                  show _ = _
                  rw [hP.out]
                  exact decide_eq_false fun h => hE h.2.1
                rw [hdE] at hq
                have hqn : (!(SP.toList == (s.extract 0 36).toList)) = true := by rw [hq]; rfl
                clear hE hdE
                go_wp2_with fail
                all_goals first | (rename_i hh; rw [hqn] at hh; cases hh; done) | exact bodyPost_ret (v := .tuple #[.agg #[.int .u64 0, .int .i64 0, .int .i64 0, .int .i64 0], .int .i64 40]) (by simp [results, Tryd.results11, go_sem, a0, a1, a2, a3]) rfl ⟨fun _ => rfl, (fun h => by rw [hF.out] at h; cases h), belFour _ _ _ _ hB3 (Nat.le_refl _)⟩
/-- The document's Get, in one word. -/
theorem rmget_any (bs : List Int) (w : World) (hby : IsBytes bs) (hl : bs.length ≤ 1000000) :
    Calls Tryd.prog 11 #[.string (strOfNums bs)] w fun e w' => e = .returned (.tuple #[.agg #[.int .u64 (getM bs).q, .int .i64 (getM bs).r, .int .i64 (getM bs).k, .int .i64 (getM bs).d], .int .i64 (getE bs)]) ∧ Below w.heap.size w w' := by
  unfold getM getE
  by_cases h : bs.length < 36
  · have hn : isMeta bs = false := by
      unfold isMeta
      exact decide_eq_false fun hh => by have := hh.1; omega
    rw [hn]
    exact rmget_short _ w (by rw [str_size]; omega)
  · refine (rmget_main bs _ rfl w hby (by omega) hl).mono fun e w' hh => ?_
    cases hm : isMeta bs with
    | true => exact ⟨hh.2.1 hm, hh.2.2⟩
    | false => exact ⟨hh.1 hm, hh.2.2⟩
end Go.Proofs.YtcgjolonapndgabDoor
