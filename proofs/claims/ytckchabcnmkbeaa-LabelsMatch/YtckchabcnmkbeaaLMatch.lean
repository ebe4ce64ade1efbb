/-
  Proved here: 'klaxonlaw09.LabelsMatch' (P9.7), called with any list of labels and any list of matchers, in any memory, returns true, and its arguments read afterwards as they read before: Check and Match of a set are the document's. No condition beyond the row's own (each slice and string within the reach that every row states).
-/
import Derived.Test.YtckchabcnmkbeaaRows
import Derived.WalkKit
import Derived.ProofKit
import Derived.OpenShut
import Derived.ShutString
import Derived.ChangeOld
import Derived.Below
import Derived.SizedLaws
import Derived.Test.YtckchabcnmkbeaaRk
namespace Go.Proofs.Ytckchabcnmkbeaa.labelsMatch
open Go.ChangeShapes Go.WideShapes Go.ChangeAt Go.RowKit
open Go.ChangeMaps (open_string shut_string)
set_option linter.unusedVariables false
theorem own : ownKnob Try.prog.godebug = none := by kernel_rfl
theorem laidOut : laidOutB Try.prog = true := by kernel_rfl
/-- The bytes of all texts. -/
def totM (l : List Mt) : Nat := (l.map fun p => p.name.size + p.op.size + p.value.size).sum
theorem totM_succ (l : List Mt) (k : Nat) (h : k < l.length) : totM (l.take (k + 1)) = totM (l.take k) + (l.getD k mt0).name.size + (l.getD k mt0).op.size + (l.getD k mt0).value.size := by
  unfold totM
  rw [List.take_succ_eq_append_getElem h, List.map_append, List.sum_append, List.getD_eq_getElem?_getD, List.getElem?_eq_getElem h]
  simp only [List.map_cons, List.map_nil, List.sum_cons, List.sum_nil, Option.getD_some, Nat.add_zero]
  omega
theorem totM_bound (l : List Mt) (h : MtsR l) (k : Nat) : totM (l.take k) ≤ k * (3 * reachBytes) := by
  induction k with
  | zero => simp [totM]
  | succ k ih =>
    by_cases hk : k < l.length
    · rw [totM_succ l k hk, Nat.add_mul]
      have h0 := h _ (getD_mem l mt0 k hk)
      have h1 := h0.1
      have h2 := h0.2.1
      have h3 := h0.2.2
      omega
    · rw [List.take_of_length_le (by omega)]
      rw [List.take_of_length_le (by omega)] at ih
      rw [Nat.add_mul]; omega
set_option maxRecDepth 100000 in
set_option maxHeartbeats 8000000 in
theorem walk (v : Value) (l : List Lb) (u : Value) (ms : List Mt) (w : World) (hv : Lbs w v l) (hr : LbsR l) (hL : l.length ≤ reachBytes) (hu : Mts w u ms) (hm : MtsR ms) (hM : ms.length ≤ reachBytes) :
    Calls Try.prog 5 #[v, u] w fun e w' => e = .returned (.bool true) ∧ Below w.heap.size w w' := by
  have htb := fun k => totM_bound ms hm k
  unfold reachBytes at hL hM htb
  have hlive := fun W => live_ok W
  have hnum := fun x (hx : -1000 ≤ x ∧ x ≤ 1000) W => num_any x W (by omega) (by omega)
  obtain ⟨a, c, rfl⟩ := hv.shape
  obtain ⟨a2, c2, rfl⟩ := hu.shape
  have hset : ∀ W, Below w.heap.size w W → Calls Try.prog 16 #[.slice a l.length c] W fun e w' => e = .returned (.bool (setB l)) ∧ Below W.heap.size W w' := fun W h => set_any _ l W (hv.grow h) hr (by omega)
  have hvk : Hid (∀ W, Below w.heap.size w W → Lbs W (.slice a l.length c) l) := fun W h => hv.grow h
  have huk : Hid (∀ W, Below w.heap.size w W → Mts W (.slice a2 ms.length c2) ms) := fun W h => hu.grow h
  replace hr : Hid (LbsR l) := hr
  replace hm : Hid (MtsR ms) := hm
  clear hv
  replace hu : Hid (Mts w (.slice a2 ms.length c2) ms) := hu
  replace htb : Hid _ := htb
  go_enter Try.func5, Try.ntmps5
  go_wp2
  go_loopw [5, 6] (fun n i wr => ∃ k d : Nat, k ≤ ms.length ∧ k ≤ 61 ∧ i = .int .i64 k ∧ n = .int .i64 (totM (ms.take k)) ∧ wr = w.drewN d) (fun _ i _ => ms.length - (intOf i).toNat)
  case atStart => exact ⟨0, 0, Nat.zero_le _, by omega, rfl, rfl, rfl⟩
  case round =>
    obtain ⟨k, d, hk, hk2, rfl, rfl, rfl⟩ := hrel
    have ht := htb.out k
    by_cases hlt : k < ms.length ∧ k ≤ 60
    · obtain ⟨hlt, h20⟩ := hlt
      obtain ⟨b, o, rfl, hc0, hc1, hc2⟩ := mt_at hu.out k hlt
      have hs := hm.out _ (getD_mem ms mt0 k hlt)
      have hs1 := hs.1
      have hs2 := hs.2.1
      have hs3 := hs.2.2
      unfold reachBytes at hs1 hs2 hs3
      have HT : Hid (totM (ms.take (k + 1)) = totM (ms.take k) + (ms.getD k mt0).name.size + (ms.getD k mt0).op.size + (ms.getD k mt0).value.size) := totM_succ ms k hlt
      generalize (ms.getD k mt0).name = s1 at *
      generalize (ms.getD k mt0).op = s2 at *
      generalize (ms.getD k mt0).value = s3 at *
      generalize totM (ms.take k) = T at ht HT ⊢
      clear hs hset hlive hnum
      have hT : T ≤ 60 * (3 * 140737488351232) := Nat.le_trans ht (Nat.mul_le_mul_right _ h20)
      have hki : (k : Int) < (ms.length : Int) := by omega
      have h20i : (k : Int) ≤ 60 := by omega
      go_wp2
      go_quiet (fail)
      go_wp2
      refine ⟨⟨k + 1, _, by omega, by omega, by go_num, by rw [HT.out]; go_num, rfl⟩, ?_⟩
      simp [intOf]; omega
    · have hB0 : Below w.heap.size w (w.drewN d) := below_drewN (Below.refl _ _) _
      have hst := hset _ hB0
      have hz0 : w.heap.size = (w.drewN d).heap.size := rfl
      cases hsb : setB l with
      | false =>
        rw [hsb] at hst
        generalize totM (ms.take k) = T at ht ⊢
        have hend : (k : Int) < (ms.length : Int) ∨ ¬ (k : Int) < (ms.length : Int) := by omega
        have h61 : ¬ (k : Int) ≤ 60 ∨ (k : Int) ≤ 60 := by omega
        rcases hend with hend | hend
        · have h60 : ¬ (k : Int) ≤ 60 := by omega
          go_wp2_with (first
            | (go_at_call 16; refine hst.mono ?_; rintro e w1 ⟨rfl, hb1⟩)
            | (go_at_call 10; refine (hlive _).mono ?_; rintro e w2 ⟨rfl, hb2⟩))
          go_ret
          exact ⟨rfl, (hB0.trans hb1).trans (hb2.mono (hB0.trans hb1).size)⟩
        · go_wp2_with (first
            | (go_at_call 16; refine hst.mono ?_; rintro e w1 ⟨rfl, hb1⟩)
            | (go_at_call 10; refine (hlive _).mono ?_; rintro e w2 ⟨rfl, hb2⟩))
          go_ret
          exact ⟨rfl, (hB0.trans hb1).trans (hb2.mono (hB0.trans hb1).size)⟩
      | true =>
        have his : IsSet l := setB_iff.1 hsb
        rw [hsb] at hst
        by_cases hall : k = ms.length
        · subst hall
          rw [List.take_of_length_le (Nat.le_refl _)] at ht ⊢
          generalize totM ms = T at ht ⊢
          have hkd : ¬ (ms.length : Int) < (ms.length : Int) := by omega
          by_cases h60 : ms.length ≤ 60
          · have h60i : ¬ (60 : Int) < (ms.length : Int) := by omega
            by_cases hT : T ≤ 20000
            · have hTi : ¬ (20000 : Int) < (T : Int) := by omega
              have hl16 := his.2.2
              have hce := chkE_in ms
              have hck := fun U (h : Mts U (.slice a2 ms.length c2) ms) => rcheck_any _ ms U h (by omega) hm.out
              have hrm := fun U (h1 : Lbs U (.slice a l.length c) l) (h2 : Mts U (.slice a2 ms.length c2) ms) => rmatch_any _ _ l ms U h1 h2 (by omega) (by omega) hr.out hm.out
              have hc1 := fun v U (h : Mts U v ms) => check_any v ms U h (by omega) hm.out
              have hm1 := fun v U (h1 : Lbs U (.slice a l.length c) l) (h2 : Mts U v ms) => match_any _ v l ms U h1 h2 (by omega) (by omega) hr.out hm.out
              generalize chkE ms = CE at *
              generalize matchB l ms = MB at *
              have hMB : (MB == MB) = true := by simp
              clear hsb hset
              go_wp2_with (first
                | (go_at_call 16; refine hst.mono ?_; rintro e w1 ⟨rfl, hb1⟩; have hB1 := hB0.trans hb1)
                | (at_builtin; refine appW TM rfl (.tmp 52) (.tmp 53) rfl w1.heap.size (.slice (some ⟨w1.heap.size, 0, none⟩) 0 0) (.slice a2 ms.length c2) [] ms rfl rfl (own_empty (T := TM) w1 w1.heap.size (Nat.le_refl _)) ((huk.out _ hB1).alloc _) (by simp) (by simp; omega) ?_; intro v2 w2 ho2 hg2; rw [List.nil_append] at ho2; have hb2 : Below w1.heap.size w1 w2 := ((Below.refl _ w1).alloc (Nat.le_refl _) _).grown hg2 (by simp) (by intro q hq; cases hq; exact Nat.le_refl _); have hB2 := hB1.trans (hb2.mono hB1.size))
                | (go_at_call 31; refine (hc1 _ _ ho2.sls).mono ?_; rintro e w3 ⟨rfl, hb3⟩; have hB3 := hB2.trans (hb3.mono hB2.size))
                | (go_at_call 15; refine (hnum _ (by omega) _).mono ?_; rintro e wx ⟨rfl, hwx⟩; subst wx)
                | (go_at_call 32; refine (hck _ (huk.out _ hB3)).mono ?_; rintro e w4 ⟨rfl, hb4⟩; have hB4 := hB3.trans (hb4.mono hB3.size))
                | (at_builtin; refine appW TM rfl (.tmp 62) (.tmp 63) rfl w4.heap.size (.slice (some ⟨w4.heap.size, 0, none⟩) 0 0) (.slice a2 ms.length c2) [] ms rfl rfl (own_empty (T := TM) w4 w4.heap.size (Nat.le_refl _)) ((huk.out _ hB4).alloc _) (by simp) (by simp; omega) ?_; intro v5 w5 ho5 hg5; rw [List.nil_append] at ho5; have hb5 : Below w4.heap.size w4 w5 := ((Below.refl _ w4).alloc (Nat.le_refl _) _).grown hg5 (by simp) (by intro q hq; cases hq; exact Nat.le_refl _); have hB5 := hB4.trans (hb5.mono hB4.size))
                | (go_at_call 33; refine (hm1 _ _ (hvk.out _ hB5) ho5.sls).mono ?_; rintro e w6 ⟨rfl, hb6⟩; have hB6 := hB5.trans (hb6.mono hB5.size))
                | (go_at_call 34; refine (hrm _ (hvk.out _ hB6) (huk.out _ hB6)).mono ?_; rintro e w7 ⟨rfl, hb7⟩; have hB7 := hB6.trans (hb7.mono hB6.size))
                | (go_at_call 10; refine (hlive _).mono ?_; rintro e w8 ⟨rfl, hb8⟩))
              go_ret
              exact ⟨rfl, hB7.trans (hb8.mono hB7.size)⟩
            · have hTi : (20000 : Int) < (T : Int) := by omega
              go_wp2_with (first
                | (go_at_call 16; refine hst.mono ?_; rintro e w1 ⟨rfl, hb1⟩)
                | (go_at_call 10; refine (hlive _).mono ?_; rintro e w2 ⟨rfl, hb2⟩))
              go_ret
              exact ⟨rfl, (hB0.trans hb1).trans (hb2.mono (hB0.trans hb1).size)⟩
          · have h60i : (60 : Int) < (ms.length : Int) := by omega
            go_wp2_with (first
              | (go_at_call 16; refine hst.mono ?_; rintro e w1 ⟨rfl, hb1⟩)
              | (go_at_call 10; refine (hlive _).mono ?_; rintro e w2 ⟨rfl, hb2⟩))
            go_ret
            exact ⟨rfl, (hB0.trans hb1).trans (hb2.mono (hB0.trans hb1).size)⟩
        · generalize totM (ms.take k) = T at ht ⊢
          have hend : (k : Int) < (ms.length : Int) := by omega
          have h60 : ¬ (k : Int) ≤ 60 := by omega
          have h60i : (60 : Int) < (ms.length : Int) := by omega
          go_wp2_with (first
            | (go_at_call 16; refine hst.mono ?_; rintro e w1 ⟨rfl, hb1⟩)
            | (go_at_call 10; refine (hlive _).mono ?_; rintro e w2 ⟨rfl, hb2⟩))
          go_ret
          exact ⟨rfl, (hB0.trans hb1).trans (hb2.mono (hB0.trans hb1).size)⟩
/-! ### THE ROW's STEP -/
set_option maxRecDepth 100000 in
theorem lifted (os : Os) (started : os.Started) (H : Type) (enc : TypeId × Value → H) :
    ReturnsInHanded {} Try.checked os 5 .any (Rows.labelsMatchSpec.pre6 enc Try.prog Try.f5 Rows.labelsMatchRow.domain false) (Rows.labelsMatchSpec.post enc Try.prog Try.f5 false true false false) := by
  refine returnsInHanded_of_change_sized (C := Try.checked) own started (by kernel_rfl) Try.func5
    (ChangeSpec.witness6 (enc := enc) (C := Try.checked) false ⟨#[], #[.slice none 0 0, .slice none 0 0], []⟩ 8 (by kernel_rfl) (by kernel_rfl) (by kernel_rfl) (by kernel_rfl)) ?_
  intro W base args ds gs before hval0 hW hcnd hsz0 _
  have hsz : (DataW.weightsEach Try.prog (Try.f5.params.toList ++ Rows.labelsMatchSpec.plain.varTypes Try.prog) (ds ++ gs)).all (· ≤ reachBytes) = true := hsz0
  have hval : ∀ (j : Nat) t v, Try.f5.params[j]? = some t → args[j]? = some v → Value.okWide Try.prog W .any base t v := hval0
  have hW' := hW
  obtain ⟨p, q, hA0, hV, rfl, hfz, hnd⟩ := hW
  have hA : DataW.TrodAll enc Try.prog W 0 (fun _ => true) true Try.f5.params.toList args.toList ds p := hA0
  rw [Try.params5] at hA hval hsz
  obtain ⟨v0, vs0, d0, ds0, p0, q0, hargs, rfl, rfl, h0, r0⟩ := trodAll_cons hA
  obtain ⟨v1, vs1, d1, ds1, p1, q1, rfl, rfl, rfl, h1, r1⟩ := trodAll_cons r0
  obtain ⟨rfl, rfl, rfl⟩ := trodAll_nil r1
  obtain rfl : args = #[v0, v1] := by cases args; simp_all
  obtain ⟨rfl, rfl⟩ := trodVars_none hV
  have k0 := h0
  have lt0 : ∀ x ∈ p0, x.block < W.heap.size := by obtain ⟨m, hm⟩ := k0; exact DataW.trod_lt m _ _ _ hm
  obtain ⟨a0, n0, c0, rfl⟩ := okWide_slice Try.underlying22 (hval 0 22 v0 rfl rfl)
  obtain ⟨l0, hP0, hR0, hL0⟩ : ∃ l, Lbs W (.slice a0 n0 c0) l ∧ LbsR l ∧ l.length ≤ reachBytes := by
    obtain ⟨fuel, hf⟩ := h0
    refine lbs_of_trod hf (fun q hq => ?_)
    have := List.all_eq_true.1 hsz _ (DataW.weights_mem_each (j := 0) (t := 22) rfl rfl q hq)
    simpa using this
  have k1 := h1
  have lt1 : ∀ x ∈ p1, x.block < W.heap.size := by obtain ⟨m, hm⟩ := k1; exact DataW.trod_lt m _ _ _ hm
  obtain ⟨a1, n1, c1, rfl⟩ := okWide_slice Try.underlying44 (hval 1 44 v1 rfl rfl)
  obtain ⟨l1, hP1, hR1, hL1⟩ : ∃ l, Mts W (.slice a1 n1 c1) l ∧ MtsR l ∧ l.length ≤ reachBytes := by
    obtain ⟨fuel, hf⟩ := h1
    refine mts_of_trod hf (fun q hq => ?_)
    have := List.all_eq_true.1 hsz _ (DataW.weights_mem_each (j := 1) (t := 44) rfl rfl q hq)
    simpa using this
  clear hA0 hval0
  refine (walk (.slice a0 n0 c0) l0 (.slice a1 n1 c1) l1 W hP0 hR0 hL0 hP1 hR1 hL1).mono fun e W' ⟨he, bel⟩ => ?_
  subst he
  exact ⟨_, rfl, _, _, _, [], _, [], hW', trodAll_mk1 (shut_bool Try.underlying4 _), (trodAll_cons_mk (Below.trod laidOut (by kernel_rfl) (of_decide_eq_true (by kernel_rfl)) k0 bel lt0) (trodAll_cons_mk (Below.trod laidOut (by kernel_rfl) (of_decide_eq_true (by kernel_rfl)) k1 bel lt1) trodAll_mk0)), rfl, bel.frame _, fun h => by cases h⟩
theorem over : Rows.labelsMatchRow.holds Try.pinned (OpenSpec.ofChange Rows.labelsMatchSpec) :=
  OpenClaim.holds_of_wide 5 Try.f5 rfl rfl rfl rfl rfl rfl rfl ⟨rfl, rfl, rfl, rfl, rfl⟩ rfl rfl rfl rfl rfl (by kernel_rfl) Try.func5 (by kernel_rfl)
    (of_decide_eq_true (by kernel_rfl)) (by unfold Func.isWrapper; first | (rw [if_pos (by decide +kernel)]; kernel_rfl) | (rw [if_neg (by decide +kernel)]; exact ⟨rfl, rfl⟩))
    (fun os started H enc _ => lifted os started H enc)
end Go.Proofs.Ytckchabcnmkbeaa.labelsMatch
namespace Go.Proofs.Ytckchabcnmkbeaa
/-- The statement. -/
theorem labelsMatch_holds : Rows.LabelsMatchSaid := labelsMatch.over
#print axioms labelsMatch_holds
end Go.Proofs.Ytckchabcnmkbeaa
