/-
  Proved here: 'klaxonlaw15.AclLevels' (P15.1, P15.2), called with any user, any list of grants and any level, in any memory, returns true, and its arguments read afterwards as they read before: Check, User, Level and May are the document's. No condition beyond the row's own (each slice and string within the reach that every row states).
-/
import Derived.Test.YtfbeilninpapaaaRows
import Derived.WalkKit
import Derived.ProofKit
import Derived.OpenShut
import Derived.ShutString
import Derived.ChangeOld
import Derived.Below
import Derived.SizedLaws
import Derived.Test.YtfbeilninpapaaaAr
namespace Go.Proofs.Ytfbeilninpapaaa.aclLevels
open Go.ChangeShapes Go.WideShapes Go.ChangeAt Go.RowKit
open Go.ChangeMaps (open_string shut_string)
set_option linter.unusedVariables false
theorem own : ownKnob Try.prog.godebug = none := by kernel_rfl
theorem laidOut : laidOutB Try.prog = true := by kernel_rfl
set_option maxRecDepth 100000 in
set_option maxHeartbeats 8000000 in
theorem walk (n r : ByteArray) (tv : Value) (ts : List ByteArray) (v : Value) (l : List Gr) (x : Int) (w : World) (hU : UsIn w n r tv ts) (hP : Grs w v l) (hG : ∀ p ∈ l, GrIn p) (hL : l.length ≤ 4398046510976) (hx : -9223372036854775808 ≤ x ∧ x ≤ 9223372036854775807) :
    Calls Try.prog 3 #[.agg #[.string n, .string r, tv], v, .int .i64 x] w fun e w' => e = .returned (.bool true) ∧ Below w.heap.size w w' := by
  obtain ⟨⟨hn, hr⟩, hT, hTb, hTl⟩ := hU
  obtain ⟨a, c, rfl⟩ := hT.shape
  obtain ⟨a2, c2, rfl⟩ := hP.shape
  have htr : TxR ts := fun s hs => by have := hTb s hs; omega
  have hgr : GrR l := fun g hg => by have := (hG g hg).2; omega
  have hgi : ∀ g ∈ l, GrI g := fun g hg => (hG g hg).1
  have hb1 : Below w.heap.size w (w.alloc (.cells #[.string n, .string r, .slice a ts.length c] 24)) := (Below.refl _ _).alloc (Nat.le_refl _) _
  have hS := small_any n r (.slice a ts.length c) ts (.slice a2 l.length c2) l (w.alloc (.cells #[.string n, .string r, .slice a ts.length c] 24)) (hT.alloc _) (by omega) (hP.alloc _) (by omega) (by omega) (by omega) htr hgr
  have hlive := fun W => live_ok W
  have hsz1 : (w.alloc (.cells #[.string n, .string r, .slice a ts.length c] 24)).heap.size = w.heap.size + 1 := by simp
  have htk : Hid (∀ W, Below (w.heap.size + 1) (w.alloc (.cells #[.string n, .string r, .slice a ts.length c] 24)) W → Txs W (.slice a ts.length c) ts) := fun W h => (hT.alloc _).grow (by rw [hsz1]; exact h)
  have hvk : Hid (∀ W, Below (w.heap.size + 1) (w.alloc (.cells #[.string n, .string r, .slice a ts.length c] 24)) W → Grs W (.slice a2 l.length c2) l) := fun W h => (hP.alloc _).grow (by rw [hsz1]; exact h)
  have hu0 : Hid (∀ W, Below (w.heap.size + 1) (w.alloc (.cells #[.string n, .string r, .slice a ts.length c] 24)) W → W.cell? ⟨w.heap.size, 0, none⟩ = some (.string n)) := fun W h => (h.cell (p := ⟨w.heap.size, 0, none⟩) (Nat.lt_succ_self _)).trans (by simp)
  have hu1 : Hid (∀ W, Below (w.heap.size + 1) (w.alloc (.cells #[.string n, .string r, .slice a ts.length c] 24)) W → W.cell? ⟨w.heap.size, 1, none⟩ = some (.string r)) := fun W h => (h.cell (p := ⟨w.heap.size, 1, none⟩) (Nat.lt_succ_self _)).trans (by simp)
  have hu2 : Hid (∀ W, Below (w.heap.size + 1) (w.alloc (.cells #[.string n, .string r, .slice a ts.length c] 24)) W → W.cell? ⟨w.heap.size, 2, none⟩ = some (.slice a ts.length c)) := fun W h => (h.cell (p := ⟨w.heap.size, 2, none⟩) (Nat.lt_succ_self _)).trans (by simp)
  replace hS : Calls Try.prog 7 #[.agg #[.string n, .string r, .slice a ts.length c], .slice a2 l.length c2] (w.alloc (.cells #[.string n, .string r, .slice a ts.length c] 24)) fun e w' => e = .returned (.bool (smB n r ts l)) ∧ Below (w.heap.size + 1) (w.alloc (.cells #[.string n, .string r, .slice a ts.length c] 24)) w' := by rw [hsz1] at hS; exact hS
  clear hsz1 hP hT
  replace hb1 : Hid (Below w.heap.size w (w.alloc (.cells #[.string n, .string r, .slice a ts.length c] 24))) := hb1
  replace htr : Hid (TxR ts) := htr
  replace hgr : Hid (GrR l) := hgr
  replace hgi : Hid (∀ g ∈ l, GrI g) := hgi
  cases hsm : smB n r ts l with
  | false =>
    rw [hsm] at hS
    clear hsm
    go_enter Try.func3, Try.ntmps3
    go_wp2_with (first
      | (go_at_call 7; refine hS.mono ?_; rintro e w1 ⟨rfl, hq1⟩)
      | (go_at_call 8; refine (hlive _).mono ?_; rintro e w2 ⟨rfl, hq2⟩))
    go_ret
    have hB1 := hb1.out.trans (hq1.mono (by omega))
    exact ⟨rfl, hB1.trans (hq2.mono hB1.size)⟩
  | true =>
    rw [hsm] at hS
    have hlen : l.length ≤ 40 := by
      unfold smB at hsm
      simpa using (Bool.and_eq_true_iff.1 hsm).1
    clear hsm
    go_enter Try.func3, Try.ntmps3
    go_wp2_with (first
      | (go_at_call 7; refine hS.mono ?_; rintro e w1 ⟨rfl, hq1⟩; replace hq1 : Hid (Below (w.heap.size + 1) (w.alloc (.cells #[.string n, .string r, .slice a ts.length c] 24)) w1) := hq1)
      | (at_builtin; refine appR TG rfl (.tmp 13) (.tmp 14) rfl w1.heap.size (.slice (some ⟨w1.heap.size, 0, none⟩) 0 0) (.slice a2 l.length c2) [] l rfl rfl (own_empty (T := TG) w1 w1.heap.size (Nat.le_refl _)) ((hvk.out _ hq1.out).alloc _) (by simp) (by simp; omega) ?_; intro v2 w2 ho2 hg2; rw [List.nil_append] at ho2; have hq2 : Below w1.heap.size w1 w2 := ((Below.refl _ w1).alloc (Nat.le_refl _) _).grown hg2 (by simp) (by intro q hq; cases hq; exact Nat.le_refl _); replace hq2 : Hid (Below w1.heap.size w1 w2) := hq2; replace hg2 : Hid _ := hg2))
    obtain ⟨a3, c3, rfl⟩ := ho2.shape
    have hB2 : Hid (Below (w.heap.size + 1) (w.alloc (.cells #[.string n, .string r, .slice a ts.length c] 24)) w2) := hq1.out.trans (hq2.out.mono (by have := hq1.out.size; simp at this; omega))
    have hB2s : w.heap.size + 1 ≤ w2.heap.size := by have := hB2.out.size; simp at this; omega
    have hBp : Hid (∀ p : Bel w2, Below (w.heap.size + 1) (w.alloc (.cells #[.string n, .string r, .slice a ts.length c] 24)) p.W) := fun p => hB2.out.trans (p.h.mono hB2s)
    have k10 : ∀ p : Bel w2, Calls Try.prog 10 #[.slice a3 l.length c3] p.W fun e w' => e = .returned (.int .i64 (ckE l)) ∧ Below p.W.heap.size p.W w' := fun p => check_any _ l p.W (ho2.sls.grow p.h) (by omega) hgr.out
    have k11 : ∀ p : Bel w2, Calls Try.prog 11 #[.slice a2 l.length c2] p.W fun e w' => e = .returned (.int .i64 (ckE l)) ∧ Below p.W.heap.size p.W w' := fun p => rcheck_any _ l p.W (hvk.out _ (hBp.out p)) (by omega) hgr.out
    have k12 : ∀ p : Bel w2, Calls Try.prog 12 #[.agg #[.string n, .string r, .slice a ts.length c]] p.W fun e w' => e = .returned (.int .i64 (usE n r ts)) ∧ Below p.W.heap.size p.W w' := fun p => user_any n r _ ts p.W (htk.out _ (hBp.out p)) (by omega) (by omega) htr.out
    have k13 : ∀ p : Bel w2, Calls Try.prog 13 #[.agg #[.string n, .string r, .slice a ts.length c]] p.W fun e w' => e = .returned (.int .i64 (usE n r ts)) ∧ Below p.W.heap.size p.W w' := fun p => ruser_any n r _ ts p.W (htk.out _ (hBp.out p)) (by omega) (by omega) htr.out
    have k14 : ∀ p : Bel w2, Calls Try.prog 14 #[.agg #[.string n, .string r, .slice a ts.length c], .slice a3 l.length c3] p.W fun e w' => e = .returned (.int .i64 (lvL n r ts l)) ∧ Below p.W.heap.size p.W w' := fun p => level_any n r _ ts _ l p.W (htk.out _ (hBp.out p)) (by omega) (ho2.sls.grow p.h) (by omega) hgi.out
    have k15 : ∀ p : Bel w2, Calls Try.prog 15 #[.agg #[.string n, .string r, .slice a ts.length c], .slice a2 l.length c2] p.W fun e w' => e = .returned (.int .i64 (lvL n r ts l)) ∧ Below p.W.heap.size p.W w' := fun p => rlevel_any n r _ ts _ l p.W (htk.out _ (hBp.out p)) (by omega) (hvk.out _ (hBp.out p)) (by omega) hgi.out
    have k16 : ∀ p : Bel w2, Calls Try.prog 16 #[.agg #[.string n, .string r, .slice a ts.length c], .int .i64 x, .slice a3 l.length c3] p.W fun e w' => e = .returned (.bool (decide (x ≤ lvL n r ts l))) ∧ Below p.W.heap.size p.W w' := fun p => may_any n r _ ts x _ l p.W (htk.out _ (hBp.out p)) (by omega) (ho2.sls.grow p.h) (by omega) hgi.out
    have k8 : ∀ p : Bel w2, Calls Try.prog 8 #[] p.W fun e w' => e = .returned (.bool true) ∧ Below p.W.heap.size p.W w' := fun p => live_ok p.W
    have k9 : ∀ z, ∀ p : Bel w2, Calls Try.prog 9 #[.int .i64 z] p.W fun e w' => e = .returned (.int .i64 z) ∧ Below p.W.heap.size p.W w' := fun z p => calls_same (num_any z p.W)
    have c0 : ∀ p : Bel w2, p.W.cell? ⟨w.heap.size, 0, none⟩ = some (.string n) := fun p => hu0.out _ (hBp.out p)
    have c1 : ∀ p : Bel w2, p.W.cell? ⟨w.heap.size, 1, none⟩ = some (.string r) := fun p => hu1.out _ (hBp.out p)
    have c2' : ∀ p : Bel w2, p.W.cell? ⟨w.heap.size, 2, none⟩ = some (.slice a ts.length c) := fun p => hu2.out _ (hBp.out p)
    have hend : Hid (∀ W, Below w2.heap.size w2 W → Below w.heap.size w W) := fun W h => hb1.out.trans ((hB2.out.trans (h.mono hB2s)).mono (by omega))
    clear ho2 hlive hS
    generalize ckE l = CE at *
    generalize usE n r ts = UE at *
    generalize lvL n r ts l = LE at *
    have e1 : (CE == CE) = true := by simp
    have e2 : (UE == UE) = true := by simp
    have e3 : (LE == LE) = true := by simp
    have e4 : (decide (x ≤ LE) == decide (x ≤ LE)) = true := by simp
    refine wp_region_bel (by kernel_rfl) (by kernel_rfl) ?_
    repeat (go_big_quiet_step (first | (go_at_call 10; exact Calls.bel (k10 _)) | (go_at_call 11; exact Calls.bel (k11 _)) | (go_at_call 12; exact Calls.bel (k12 _)) | (go_at_call 13; exact Calls.bel (k13 _)) | (go_at_call 14; exact Calls.bel (k14 _)) | (go_at_call 15; exact Calls.bel (k15 _)) | (go_at_call 16; exact Calls.bel (k16 _)) | (go_at_call 8; exact Calls.bel (k8 _)) | (go_at_call 9; exact Calls.bel (k9 _ _))))
    refine wpQuiet_nil ?_
    rintro _ ⟨⟨wq, hq⟩, rfl⟩
    go_wp2
    go_ret
    exact ⟨rfl, hend.out _ hq⟩
/-! ### THE ROW's STEP -/
set_option maxRecDepth 100000 in
theorem lifted (os : Os) (started : os.Started) (H : Type) (enc : TypeId × Value → H) :
    ReturnsInHanded {} Try.checked os 3 .any (Rows.aclLevelsSpec.pre6 enc Try.prog Try.f3 Rows.aclLevelsRow.domain false) (Rows.aclLevelsSpec.post enc Try.prog Try.f3 false true false false) := by
  refine returnsInHanded_of_change_sized (C := Try.checked) own started (by kernel_rfl) Try.func3
    (ChangeSpec.witness6 (enc := enc) (C := Try.checked) false ⟨#[], #[.agg #[.string ⟨#[]⟩, .string ⟨#[]⟩, .slice none 0 0], .slice none 0 0, .int .i64 0], []⟩ 8 (by kernel_rfl) (by kernel_rfl) (by kernel_rfl) (by kernel_rfl)) ?_
  intro W base args ds gs before hval0 hW hcnd hsz0 _
  have hsz : (DataW.weightsEach Try.prog (Try.f3.params.toList ++ Rows.aclLevelsSpec.plain.varTypes Try.prog) (ds ++ gs)).all (· ≤ reachBytes) = true := hsz0
  have hval : ∀ (j : Nat) t v, Try.f3.params[j]? = some t → args[j]? = some v → Value.okWide Try.prog W .any base t v := hval0
  have hW' := hW
  obtain ⟨p, q, hA0, hV, rfl, hfz, hnd⟩ := hW
  have hA : DataW.TrodAll enc Try.prog W 0 (fun _ => true) true Try.f3.params.toList args.toList ds p := hA0
  rw [Try.params3] at hA hval hsz
  obtain ⟨v0, vs0, d0, ds0, p0, q0, hargs, rfl, rfl, h0, r0⟩ := trodAll_cons hA
  obtain ⟨v1, vs1, d1, ds1, p1, q1, rfl, rfl, rfl, h1, r1⟩ := trodAll_cons r0
  obtain ⟨v2, vs2, d2, ds2, p2, q2, rfl, rfl, rfl, h2, r2⟩ := trodAll_cons r1
  obtain ⟨rfl, rfl, rfl⟩ := trodAll_nil r2
  obtain rfl : args = #[v0, v1, v2] := by cases args; simp_all
  obtain ⟨rfl, rfl⟩ := trodVars_none hV
  have k0 := h0
  have lt0 : ∀ x ∈ p0, x.block < W.heap.size := by obtain ⟨m, hm⟩ := k0; exact DataW.trod_lt m _ _ _ hm
  obtain ⟨m0, r0s, tv0, ts0, rfl, hR0⟩ : ∃ m r tv ts, v0 = .agg #[.string m, .string r, tv] ∧ UsIn W m r tv ts := by
    obtain ⟨fuel, hf⟩ := h0
    refine us_arg (hval 0 24 v0 rfl rfl) hf (fun q hq => ?_)
    have := List.all_eq_true.1 hsz _ (DataW.weights_mem_each (j := 0) (t := 24) rfl rfl q hq)
    simpa using this
  have k1 := h1
  have lt1 : ∀ x ∈ p1, x.block < W.heap.size := by obtain ⟨m, hm⟩ := k1; exact DataW.trod_lt m _ _ _ hm
  obtain ⟨a1, n1, c1, rfl⟩ := okWide_slice Try.underlying25 (hval 1 25 v1 rfl rfl)
  obtain ⟨l1, hP1, hR1, hL1⟩ : ∃ l, Grs W (.slice a1 n1 c1) l ∧ (∀ p ∈ l, GrIn p) ∧ l.length ≤ 4398046510976 := by
    obtain ⟨fuel, hf⟩ := h1
    refine grs_of_trod hf (fun q hq => ?_)
    have := List.all_eq_true.1 hsz _ (DataW.weights_mem_each (j := 1) (t := 25) rfl rfl q hq)
    simpa using this
  obtain ⟨x2, rfl, rfl, rfl, w2⟩ := open_int Try.underlying3 (hval 2 3 v2 rfl rfl) h2
  clear hA0 hval0
  refine (walk m0 r0s tv0 ts0 (.slice a1 n1 c1) l1 x2 W hR0 hP1 hR1 hL1 (in64_of w2)).mono fun e W' ⟨he, bel⟩ => ?_
  subst he
  exact ⟨_, rfl, _, _, _, [], _, [], hW', trodAll_mk1 (shut_bool Try.underlying4 _), (trodAll_cons_mk (Below.trod laidOut (by kernel_rfl) (of_decide_eq_true (by kernel_rfl)) k0 bel lt0) (trodAll_cons_mk (Below.trod laidOut (by kernel_rfl) (of_decide_eq_true (by kernel_rfl)) k1 bel lt1) (trodAll_cons_mk (shut_int Try.underlying3 w2) trodAll_mk0))), rfl, bel.frame _, fun h => by cases h⟩
theorem over : Rows.aclLevelsRow.holds Try.pinned (OpenSpec.ofChange Rows.aclLevelsSpec) :=
  OpenClaim.holds_of_wide 3 Try.f3 rfl rfl rfl rfl rfl rfl rfl ⟨rfl, rfl, rfl, rfl, rfl⟩ rfl rfl rfl rfl rfl (by kernel_rfl) Try.func3 (by kernel_rfl)
    (of_decide_eq_true (by kernel_rfl)) (by unfold Func.isWrapper; first | (rw [if_pos (by decide +kernel)]; kernel_rfl) | (rw [if_neg (by decide +kernel)]; exact ⟨rfl, rfl⟩))
    (fun os started H enc _ => lifted os started H enc)
end Go.Proofs.Ytfbeilninpapaaa.aclLevels
namespace Go.Proofs.Ytfbeilninpapaaa
/-- The statement. -/
theorem aclLevels_holds : Rows.AclLevelsSaid := aclLevels.over
#print axioms aclLevels_holds
end Go.Proofs.Ytfbeilninpapaaa
