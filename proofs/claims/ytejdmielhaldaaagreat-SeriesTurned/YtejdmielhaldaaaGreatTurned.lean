/-
  Of every list of series: Sort, turned round twice by Map, is the same frame; is_null is told of each of its values.
-/
import Derived.Test.YtejdmielhaldaaaGreatRows
import Derived.WalkKit
import Derived.ProofKit
import Derived.OpenShut
import Derived.ShutString
import Derived.ChangeOld
import Derived.Below
import Derived.SizedLaws
import Derived.Test.YtejdmielhaldaaaGreatTaTd
import Derived.Test.YtejdmielhaldaaaGreatWeWh
namespace Go.Proofs.YtejdmielhaldaaaGreat.seriesTurned
open Go.ChangeShapes Go.WideShapes Go.ChangeAt Go.RowKit
open Go.ChangeMaps (open_string shut_string)
set_option linter.unusedVariables false
theorem own : ownKnob Tryz.prog.godebug = none := by kernel_rfl
theorem laidOut : laidOutB Tryz.prog = true := by kernel_rfl
theorem turned_op : doE ⟨#[45]⟩ [nul] = 0 := by decide +kernel
theorem null_op : doE ⟨#[105, 115, 95, 110, 117, 108, 108]⟩ [nul] = 0 := by decide +kernel
theorem turned_frame {F : List Series10.Sr} (h : Series10.IsFrame F) : Series10.IsFrame (mapF ⟨#[45]⟩ F) :=
  h.map (fun v => doV ⟨#[45]⟩ [v]) fun v hv => by rw [(do_neg hv).1]; exact neg_isV hv
theorem turned_twice {F : List Series10.Sr} (h : Series10.IsFrame F) : mapF ⟨#[45]⟩ (mapF ⟨#[45]⟩ F) = F := by
  unfold mapF
  rw [List.map_map]
  conv => rhs; rw [← List.map_id F]
  apply List.map_congr_left
  intro s hs
  have hv := h.2.1 s hs
  show (⟨s.labels, doV ⟨#[45]⟩ [doV ⟨#[45]⟩ [s.value]]⟩ : Series10.Sr) = s
  have h2 : IsV (negV s.value) := neg_isV hv
  rw [(do_neg hv).1, (do_neg h2).1]
  show (⟨s.labels, neg (neg s.value)⟩ : Series10.Sr) = s
  rw [neg_neg hv]
theorem null_true {v : Vl} (hv : IsV v) : truB (doV ⟨#[105, 115, 95, 110, 117, 108, 108]⟩ [v]) = (v.kind == 2) := by
  have h1 : one ⟨#[105, 115, 95, 110, 117, 108, 108]⟩ v = some (tru (v.kind == 2)) := by simp [one]
  rw [(do_one hv h1).1]
  cases (v.kind == 2) <;> decide
set_option maxRecDepth 100000 in
set_option maxHeartbeats 1000000 in
theorem value_any (v : Vl) (w : World) : Calls Tryz.prog 26 #[.agg #[.int .i64 v.kind, .int .i64 v.n]] w fun e w' => e = .returned (.bool (truB v)) ∧ Below w.heap.size w w' := by
  have hr := rtrue_any v (w.alloc (.cells #[.int .i64 v.kind, .int .i64 v.n] 25))
  unfold vlV at hr
  obtain ⟨c0, c1⟩ := (vlNew w v).cells
  generalize truB v = B at *
  go_enter Tryz.func26, Tryz.ntmps26
  go_wp2_with (first | (go_at_call 52; refine hr.mono ?_; rintro e w1 ⟨rfl, hb1⟩))
  go_ret
  exact ⟨rfl, (bW0 w _).trans (hb1.mono (by simp))⟩
theorem ser_at {w : World} {a : Option Addr} {n c : Nat} {F : List Series10.Sr} (h : IsSer w a n c F) (t : Nat) (ht : t < n) : ∃ b o, a = some ⟨b, o, none⟩ ∧ w.cell? ⟨b, o + t * 3 + 1, none⟩ = some (.int .i64 (F.getD t ⟨[], zer⟩).value.kind) ∧ w.cell? ⟨b, o + t * 3 + 2, none⟩ = some (.int .i64 (F.getD t ⟨[], zer⟩).value.n) := by
  obtain ⟨l, rfl, h2, h3, rfl⟩ := h
  obtain ⟨b, o, rfl, _, x1, x2⟩ := sr_at h2 t ht
  refine ⟨b, o, rfl, ?_, ?_⟩
  · rw [x1, List.getD_eq_getElem?_getD, List.getD_eq_getElem?_getD, List.getElem?_map, List.getElem?_eq_getElem ht]; rfl
  · rw [x2, List.getD_eq_getElem?_getD, List.getD_eq_getElem?_getD, List.getElem?_map, List.getElem?_eq_getElem ht]; rfl
set_option maxRecDepth 100000 in
set_option maxHeartbeats 8000000 in
/-- THE WALK. -/
theorem walk (a : Option Addr) (n c : Nat) (l : List Se) (w : World) (hv : Srs w (.slice a n c) l) (hi : ∀ p ∈ l, SeIn w p) (hl : l.length ≤ 4398046511104) :
    Calls Tryz.prog 8 #[.slice a n c] w fun e w' => e = .returned (.bool true) ∧ Below w.heap.size w w' := by
  have hlive := live_ok
  have hsm := small_ser _ l w hv (fun x hx => (hi x hx).1) (fun x hx => (hi x hx).2) hl
  obtain ⟨hS, hR⟩ := isSer_in hv hi
  have hn : l.length = n := by rw [hS.len, List.length_map]
  rw [hn] at hsm
  generalize l.map serOf = F at *
  clear hv hi hl hn
  replace hS : Hid (IsSer w a n c F) := hS
  replace hR : Hid (FR F) := hR
  have hE := fun x W => enum_any x W
  by_cases hq : ∃ out, Series10.SortQ F out 0
  · obtain ⟨F', hq⟩ := hq
    have hf' := (hq.frame rfl).1
    have hq' := hf'.sort
    have hfm := turned_frame hf'
    have hqm := hfm.sort
    have htw := turned_twice hf'
    have hn2 : n = F'.length := by rw [hS.out.len]; exact (hq.frame rfl).2.length_eq.symm
    have hvv : Hid (∀ t, t < n → truB ((mapF ⟨#[105, 115, 95, 110, 117, 108, 108]⟩ F').getD t ⟨[], zer⟩).value = ((F'.getD t ⟨[], zer⟩).value.kind == 2)) := fun t ht => by
      rw [hn2] at ht
      have hm := hf'.2.1 _ (List.getElem_mem ht)
      unfold mapF
      rw [List.getD_eq_getElem?_getD, List.getElem?_map, List.getD_eq_getElem?_getD, List.getElem?_eq_getElem ht]
      exact null_true hm
    have hs1 : Hid (∀ s ∈ F', s.labels.length ≤ 1000000) := fun s hs => by have := (hf'.1 s hs).2.2; omega
    replace hq : Hid (Series10.SortQ F F' 0) := hq
    replace hf' : Hid (Series10.IsFrame F') := hf'
    replace hq' : Hid (Series10.SortQ F' F' 0) := hq'
    replace hfm : Hid (Series10.IsFrame (mapF ⟨#[45]⟩ F')) := hfm
    replace hqm : Hid (Series10.SortQ (mapF ⟨#[45]⟩ F') (mapF ⟨#[45]⟩ F') 0) := hqm
    replace htw : Hid (mapF ⟨#[45]⟩ (mapF ⟨#[45]⟩ F') = F') := htw
    clear hn2
    go_enter Tryz.func8, Tryz.ntmps8
    go_wp2_with (first
      | (go_at_call 13; refine hsm.mono ?_; rintro e w1 ⟨B, rfl, hB60, hb1⟩; have hS1 := hS.out.grow hb1; cases B)
      | (go_at_call 9; refine (hlive _).mono ?_; rintro e w2 ⟨rfl, hb2⟩))
    · go_ret
      exact ⟨rfl, hb1.trans (hb2.mono hb1.size)⟩
    · have hn6 : n ≤ 60 := hB60 trivial
      have hL := fun x W (h0 : -1000 ≤ x) (h1 : x ≤ 1000) => lnum_any x W h0 h1
      clear hB60 hsm
      go_wp2_with (first
        | (go_at_call 15; (with_reducible refine (ownF hS1 hR.out (by omega)).mono ?_); rintro e w3 ⟨a3, c3, rfl, h3⟩; have hB3 := hb1.trans (h3.out.2.mono hb1.size); have hso := sortF h3.out.1 hR.out (by omega) hq.out)
        | (go_at_call 14; refine hso.mono ?_; rintro e w4 ⟨a4, c4, rfl, h4⟩; have hB4 := hB3.trans (h4.out.2.mono hB3.size); have hS4 := h4.out.1)
        | (go_at_call 12; refine (hL 0 _ (by omega) (by omega)).mono ?_; rintro e w' ⟨rfl, rfl⟩)
        | (go_at_call 15; (with_reducible refine (ownF hS4 (FR.frame hf'.out) (by omega)).mono ?_); rintro e w5 ⟨a5, c5, rfl, h5⟩; have hB5 := hB4.trans (h5.out.2.mono hB4.size); have g5 := h5.out.2; have hm1 := mapF_ok (op := ⟨#[45]⟩) h5.out.1 (FR.frame hf'.out) (by omega) hq'.out turned_op)
        | (go_at_call 17; (with_reducible refine hm1.mono ?_); rintro e w6 ⟨a6, c6, rfl, h6⟩; have hB6 := hB5.trans (h6.out.2.mono hB5.size); have g6 := g5.trans (h6.out.2.mono g5.size); have hS6 := h6.out.1)
        | (go_at_call 15; (with_reducible refine (ownF hS6 (FR.frame hfm.out) (by omega)).mono ?_); rintro e w7 ⟨a7, c7, rfl, h7⟩; have hB7 := hB6.trans (h7.out.2.mono hB6.size); have g7 := g6.trans (h7.out.2.mono g6.size); have hm2 := mapF_ok (op := ⟨#[45]⟩) h7.out.1 (FR.frame hfm.out) (by omega) hqm.out turned_op)
        | (go_at_call 17; (with_reducible refine hm2.mono ?_); rintro e w8 ⟨a8, c8, rfl, h8⟩; have hB8 := hB7.trans (h8.out.2.mono hB7.size); have g8 := g7.trans (h8.out.2.mono g7.size); have hS8 := h8.out.1; rw [htw.out] at hS8; have hsa := sameF hS8 (hS4.grow g8) (FR.frame hf'.out) (FR.frame hf'.out) hs1.out hs1.out (by omega) (by omega); rw [decide_eq_true rfl] at hsa)
        | (go_at_call 21; refine hsa.mono ?_; rintro e w9 ⟨rfl, hb9⟩; have hB9 := hB8.trans (hb9.mono hB8.size); have g9 := g8.trans (hb9.mono g8.size); have hS9 := hS4.grow g9; have hS4x : Hid _ := hS4; clear hS4)
        | (go_at_call 15; (with_reducible refine (ownF hS9 (FR.frame hf'.out) (by omega)).mono ?_); rintro e w10 ⟨a10, c10, rfl, h10⟩; have hB10 := hB9.trans (h10.out.2.mono hB9.size); have hS10 := hS9.grow h10.out.2; have hm3 := mapF_ok (op := ⟨#[105, 115, 95, 110, 117, 108, 108]⟩) h10.out.1 (FR.frame hf'.out) (by omega) hq'.out null_op)
        | (go_at_call 17; (with_reducible refine hm3.mono ?_); rintro e w11 ⟨a11, c11, rfl, h11⟩; have hB11 := hB10.trans (h11.out.2.mono hB10.size); have hS11 := hS10.grow h11.out.2; have hC11 := h11.out.1))
      replace hS11 : Hid _ := hS11
      replace hC11 : Hid _ := hC11
      clear hm1 hm2 hm3 hsa hso hS1 hS6 hS8 hS9 hS10 hB3 hB4 hB5 hB6 hB7 hB8 hB9 hB10 hb9 g5 g6 g7 g8 g9 hE
      go_loopw [11] (fun i wr => ∃ k : Nat, k ≤ n ∧ i = .int .i64 k ∧ Hid (Below w11.heap.size w11 wr)) (fun i _ => n - (intOf i).toNat)
      case atStart => exact ⟨0, Nat.zero_le _, rfl, Below.refl _ _⟩
      case round =>
        obtain ⟨k, hk, rfl, hB⟩ := hrel
        by_cases hlt : k < n
        · have hki : (k : Int) < (n : Int) := by omega
          obtain ⟨b, o, rfl, x1, x2⟩ := ser_at (IsSer.grow hC11.out hB.out) k hlt
          obtain ⟨b2, o2, rfl, y1, y2⟩ := ser_at (IsSer.grow hS11.out hB.out) k hlt
          have hvk := hvv.out k hlt
          generalize (mapF ⟨#[105, 115, 95, 110, 117, 108, 108]⟩ F').getD k ⟨[], zer⟩ = x at *
          generalize F'.getD k ⟨[], zer⟩ = y at *
          have hcall : ∀ p : Bel wr, Calls Tryz.prog 26 #[.agg #[.int .i64 x.value.kind, .int .i64 x.value.n]] p.W fun e w' => e = .returned (.bool (truB x.value)) ∧ Below p.W.heap.size p.W w' := fun p => value_any x.value p.W
          have c1 : ∀ p : Bel wr, p.W.cell? ⟨b, o + k * 3 + 1, none⟩ = some (.int .i64 x.value.kind) := fun p => p.cell x1
          have c2 : ∀ p : Bel wr, p.W.cell? ⟨b, o + k * 3 + 2, none⟩ = some (.int .i64 x.value.n) := fun p => p.cell x2
          have d1 : ∀ p : Bel wr, p.W.cell? ⟨b2, o2 + k * 3 + 1, none⟩ = some (.int .i64 y.value.kind) := fun p => p.cell y1
          rw [hvk] at hcall
          have hBd := hB.out
          clear hvk x1 x2 y1 y2
          cases e1 : (y.value.kind == 2) with
          | false =>
            rw [e1] at hcall
            go_wp2
            refine wp_region_bel (by kernel_rfl) (by kernel_rfl) ?_
            repeat (go_big_quiet_step (exact Calls.bel (hcall _)))
            refine wpQuiet_nil ?_
            rintro W ⟨p, rfl⟩
            go_wp2
            refine ⟨⟨k + 1, by omega, by go_num, hBd.trans (p.h.mono hBd.size)⟩, ?_⟩
            simp [intOf]; omega
          | true =>
            rw [e1] at hcall
            go_wp2
            refine wp_region_bel (by kernel_rfl) (by kernel_rfl) ?_
            repeat (go_big_quiet_step (exact Calls.bel (hcall _)))
            refine wpQuiet_nil ?_
            rintro W ⟨p, rfl⟩
            go_wp2
            refine ⟨⟨k + 1, by omega, by go_num, hBd.trans (p.h.mono hBd.size)⟩, ?_⟩
            simp [intOf]; omega
        · obtain rfl : k = n := by omega
          have hki : ¬ (k : Int) < (k : Int) := by omega
          have hB12 := hB11.trans (hB.out.mono hB11.size)
          go_wp2_with (first
            | (go_at_call 12; refine (hL 0 _ (by omega) (by omega)).mono ?_; rintro e w' ⟨rfl, rfl⟩)
            | (go_at_call 9; refine (hlive _).mono ?_; rintro e w13 ⟨rfl, hb13⟩))
          go_ret
          exact ⟨rfl, hB12.trans (hb13.mono hB12.size)⟩
  · replace hq : Hid (¬ ∃ out, Series10.SortQ F out 0) := hq
    go_enter Tryz.func8, Tryz.ntmps8
    go_wp2_with (first
      | (go_at_call 13; refine hsm.mono ?_; rintro e w1 ⟨B, rfl, hB60, hb1⟩; have hS1 := hS.out.grow hb1; cases B)
      | (go_at_call 9; refine (hlive _).mono ?_; rintro e w2 ⟨rfl, hb2⟩))
    · go_ret
      exact ⟨rfl, hb1.trans (hb2.mono hb1.size)⟩
    · have hn6 : n ≤ 60 := hB60 trivial
      clear hB60 hsm
      go_wp2_with (first
        | (go_at_call 15; refine (ownF hS1 hR.out (by omega)).mono ?_; rintro e w3 ⟨a3, c3, rfl, h3⟩; have hB3 := hb1.trans (h3.out.2.mono hb1.size); have hso := sortF_no h3.out.1 hR.out (by omega) hq.out)
        | (go_at_call 14; refine hso.mono ?_; rintro e w4 ⟨er, rfl, hne, _, hb4⟩; have hB4 := hB3.trans (hb4.mono hB3.size))
        | (go_at_call 12; refine (hE er _).mono ?_; rintro e w5 ⟨rfl, hb5⟩; have hB5 := hB4.trans (hb5.mono hB4.size))
        | (go_at_call 9; refine (hlive _).mono ?_; rintro e w6 ⟨rfl, hb6⟩))
      go_ret
      exact ⟨rfl, hB5.trans (hb6.mono hB5.size)⟩
/-! ### THE ROW's STEP -/
set_option maxRecDepth 100000 in
theorem lifted (os : Os) (started : os.Started) (H : Type) (enc : TypeId × Value → H) :
    ReturnsInHanded {} Tryz.checked os 8 .any (Rows.seriesTurnedSpec.pre6 enc Tryz.prog Tryz.f8 Rows.seriesTurnedRow.domain false) (Rows.seriesTurnedSpec.post enc Tryz.prog Tryz.f8 false true false false) := by
  refine returnsInHanded_of_change_sized (C := Tryz.checked) own started (by kernel_rfl) Tryz.func8
    (ChangeSpec.witness6 (enc := enc) (C := Tryz.checked) false ⟨#[], #[.slice none 0 0], []⟩ 8 (by kernel_rfl) (by kernel_rfl) (by kernel_rfl) (by kernel_rfl)) ?_
  intro W base args ds gs before hval0 hW hcnd hsz0 _
  have hsz : (DataW.weightsEach Tryz.prog (Tryz.f8.params.toList ++ Rows.seriesTurnedSpec.plain.varTypes Tryz.prog) (ds ++ gs)).all (· ≤ reachBytes) = true := hsz0
  have hval : ∀ (j : Nat) t v, Tryz.f8.params[j]? = some t → args[j]? = some v → Value.okWide Tryz.prog W .any base t v := hval0
  have hW' := hW
  obtain ⟨p, q, hA0, hV, rfl, hfz, hnd⟩ := hW
  have hA : DataW.TrodAll enc Tryz.prog W 0 (fun _ => true) true Tryz.f8.params.toList args.toList ds p := hA0
  rw [Tryz.params8] at hA hval hsz
  obtain ⟨v0, vs0, d0, ds0, p0, q0, hargs, rfl, rfl, h0, r0⟩ := trodAll_cons hA
  obtain ⟨rfl, rfl, rfl⟩ := trodAll_nil r0
  obtain rfl : args = #[v0] := by cases args; simp_all
  obtain ⟨rfl, rfl⟩ := trodVars_none hV
  have k0 := h0
  have lt0 : ∀ x ∈ p0, x.block < W.heap.size := by obtain ⟨m, hm⟩ := k0; exact DataW.trod_lt m _ _ _ hm
  obtain ⟨a0, n0, c0, rfl⟩ := okWide_slice Tryz.underlying33 (hval 0 33 v0 rfl rfl)
  obtain ⟨l0, hP0, hR0, hL0⟩ : ∃ l, Srs W (.slice a0 n0 c0) l ∧ (∀ p ∈ l, SeIn W p) ∧ l.length ≤ 4398046511104 := by
    obtain ⟨fuel, hf⟩ := h0
    refine srs_of_trod hf (fun q hq => ?_)
    have := List.all_eq_true.1 hsz _ (DataW.weights_mem_each (j := 0) (t := 33) rfl rfl q hq)
    simpa using this
  clear hA0 hval0
  refine (walk a0 n0 c0 l0 W hP0 hR0 hL0).mono fun e W' ⟨he, bel⟩ => ?_
  subst he
  exact ⟨_, rfl, _, _, _, [], _, [], hW', trodAll_mk1 (shut_bool Tryz.underlying4 _), (trodAll_cons_mk (Below.trod laidOut (by kernel_rfl) (of_decide_eq_true (by kernel_rfl)) k0 bel lt0) trodAll_mk0), rfl, bel.frame _, fun h => by cases h⟩
theorem over : Rows.seriesTurnedRow.holds Tryz.pinned (OpenSpec.ofChange Rows.seriesTurnedSpec) :=
  OpenClaim.holds_of_wide 8 Tryz.f8 rfl rfl rfl rfl rfl rfl rfl ⟨rfl, rfl, rfl, rfl, rfl⟩ rfl rfl rfl rfl rfl (by kernel_rfl) Tryz.func8 (by kernel_rfl)
    (of_decide_eq_true (by kernel_rfl)) (by unfold Func.isWrapper; first | (rw [if_pos (by decide +kernel)]; kernel_rfl) | (rw [if_neg (by decide +kernel)]; exact ⟨rfl, rfl⟩))
    (fun os started H enc _ => lifted os started H enc)
end Go.Proofs.YtejdmielhaldaaaGreat.seriesTurned
namespace Go.Proofs.YtejdmielhaldaaaGreat
/-- The statement. -/
theorem seriesTurned_holds : Rows.SeriesTurnedSaid := seriesTurned.over
#print axioms seriesTurned_holds
end Go.Proofs.YtejdmielhaldaaaGreat
