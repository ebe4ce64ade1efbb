/-
  Of every way to reduce, strict or not, and every list of points: what they become, and which error, is what the document reckons of them.
-/
import Derived.Test.YtejdmielhaldaaaGreatRows
import Derived.WalkKit
import Derived.ProofKit
import Derived.OpenShut
import Derived.ShutString
import Derived.ChangeOld
import Derived.Below
import Derived.SizedLaws
import Derived.Test.YtejdmielhaldaaaGreatTaTd
import Derived.Test.YtejdmielhaldaaaGreatUc
import Derived.Test.YtejdmielhaldaaaGreatUe
namespace Go.Proofs.YtejdmielhaldaaaGreat.seriesReduce
open Go.ChangeShapes Go.WideShapes Go.ChangeAt Go.RowKit
open Go.ChangeMaps (open_string shut_string)
set_option linter.unusedVariables false
theorem own : ownKnob Tryz.prog.godebug = none := by kernel_rfl
theorem laidOut : laidOutB Tryz.prog = true := by kernel_rfl
set_option maxRecDepth 100000 in
set_option maxHeartbeats 16000000 in
/-- THE WALK. -/
theorem walk (how : ByteArray) (strict : Bool) (a : Option Addr) (n c : Nat) (L : List Pn) (w : World) (hs : how.size ≤ reachBytes) (hP : Pns w (.slice a n c) L) (_ : True) (hl : L.length ≤ 5864062014634) :
    Calls Tryz.prog 3 #[.string how, .bool strict, .slice a n c] w fun e w' => e = .returned (.bool true) ∧ Below w.heap.size w w' := by
  have hlive := live_ok
  have hE := fun x W => enum_any x W
  have hn : Hid (n = L.length) := by obtain ⟨a', c', e⟩ := hP.shape; injection e
  have hnl : n ≤ 5864062014634 := by rw [hn.out]; exact hl
  replace hP : Hid (Pns w (.slice a n c) L) := hP
  by_cases hlv : (60 < n ∧ n ≤ 2000) ∨ 1000 < how.size
  · rcases hlv with ⟨h1, h2⟩ | h3
    · have h1i : (60 : Int) < (n : Int) := by omega
      have h2i : (n : Int) ≤ 2000 := by omega
      go_enter Tryz.func3, Tryz.ntmps3
      go_wp2_with (first
        | (go_at_call 9; refine (hlive _).mono ?_; rintro e w2 ⟨rfl, hb2⟩))
      all_goals
        go_ret
        exact ⟨rfl, hb2⟩
    · have h3i : (1000 : Int) < (how.size : Int) := by omega
      by_cases h1 : 60 < n
      · have h1i : (60 : Int) < (n : Int) := by omega
        by_cases h2 : n ≤ 2000
        · have h2i : (n : Int) ≤ 2000 := by omega
          go_enter Tryz.func3, Tryz.ntmps3
          go_wp2_with (first
            | (go_at_call 9; refine (hlive _).mono ?_; rintro e w2 ⟨rfl, hb2⟩))
          all_goals
            go_ret
            exact ⟨rfl, hb2⟩
        · have h2i : ¬ (n : Int) ≤ 2000 := by omega
          go_enter Tryz.func3, Tryz.ntmps3
          go_wp2_with (first
            | (go_at_call 9; refine (hlive _).mono ?_; rintro e w2 ⟨rfl, hb2⟩))
          all_goals
            go_ret
            exact ⟨rfl, hb2⟩
      · have h1i : ¬ (60 : Int) < (n : Int) := by omega
        go_enter Tryz.func3, Tryz.ntmps3
        go_wp2_with (first
          | (go_at_call 9; refine (hlive _).mono ?_; rintro e w2 ⟨rfl, hb2⟩))
        all_goals
          go_ret
          exact ⟨rfl, hb2⟩
  · have h3i : ¬ (1000 : Int) < (how.size : Int) := by omega
    have hcs : ((60 : Int) < (n : Int) ∧ ¬ (n : Int) ≤ 2000) ∨ ¬ (60 : Int) < (n : Int) := by omega
    have hoe : OwnS TP (w.alloc (.cells #[] 51)) w.heap.size (.slice (some ⟨w.heap.size, 0, none⟩) 0 0) [] := own_empty (T := TP) w w.heap.size (Nat.le_refl _)
    have hb0 := bW0 w (.cells #[] 51)
    have hu0 := Sls.grow hP.out hb0
    have hl1 : ([] : List Pn).length + L.length ≤ 5864062014634 := by simp; omega
    have hl2 : (([] : List Pn).length + L.length) * TP.bytes ≤ 140737488355328 := by show (0 + L.length) * 24 ≤ _; omega
    have hr1 : ∀ v W, Pns W v L → Calls Tryz.prog 10 #[.string how, .bool strict, v] W fun e w' => e = .returned (.tuple #[vlV (reduV how strict L), .int .i64 (redE how L)]) ∧ Below W.heap.size W w' := fun v W h => reduce_any how strict v L W h (by omega)
    have hr2 : ∀ W, Below w.heap.size w W → Calls Tryz.prog 11 #[.string how, .bool strict, .slice a n c] W fun e w' => e = .returned (.tuple #[vlV (reduV how strict L), .int .i64 (redE how L)]) ∧ Below W.heap.size W w' := fun W h => rreduce_any how strict _ L W (Sls.grow hP.out h)
    generalize reduV how strict L = R at *
    generalize redE how L = E at *
    have hEE := fun W => hE E W
    clear hE hlv
    unfold vlV at hr1 hr2
    rcases hcs with ⟨h1i, h2i⟩ | h1i
    all_goals
      go_enter Tryz.func3, Tryz.ntmps3
      go_wp2_with (first
        | (at_builtin; refine appRc TP rfl (.tmp 28) (.tmp 29) rfl w.heap.size _ _ [] L rfl rfl hoe hu0 (by simp) hl1 hl2 ?_; intro v5 w5 ho5 hg5; rw [List.nil_append] at ho5; have hb5 := hb0.trans (hoe.grows (by simp) hg5); have hp5 := ho5.sls)
        | (go_at_call 10; refine (hr1 _ _ hp5).mono ?_; rintro e w6 ⟨rfl, hb6⟩; have kB6 := hb5.trans (hb6.mono hb5.size); have k7 := vlNew w6 R; have kB7 := kB6.alloc kB6.size (vlO R))
        | (go_at_call 11; refine (hr2 _ kB7).mono ?_; rintro e w7 ⟨rfl, hb7⟩; have kB8 := kB7.trans (hb7.mono kB7.size); have k71 := (k7.grow hb7).alloc (vlO R); have k9 := vlNew w7 R; obtain ⟨c0, c1⟩ := k71.cells; obtain ⟨d0, d1⟩ := k9.cells; have kB9 := kB8.alloc kB8.size (vlO R))
        | (go_at_call 12; refine (hEE _).mono ?_; rintro e w8 ⟨rfl, hb8⟩; have kB10 := kB9.trans (hb8.mono kB9.size))
        | (go_at_call 9; refine (hlive _).mono ?_; rintro e w9 ⟨rfl, hb9⟩; have kB11 := kB10.trans (hb9.mono kB10.size)))
      go_ret
      exact ⟨rfl, kB11⟩
/-! ### THE ROW's STEP -/
set_option maxRecDepth 100000 in
theorem lifted (os : Os) (started : os.Started) (H : Type) (enc : TypeId × Value → H) :
    ReturnsInHanded {} Tryz.checked os 3 .any (Rows.seriesReduceSpec.pre6 enc Tryz.prog Tryz.f3 Rows.seriesReduceRow.domain false) (Rows.seriesReduceSpec.post enc Tryz.prog Tryz.f3 false true false false) := by
  refine returnsInHanded_of_change_sized (C := Tryz.checked) own started (by kernel_rfl) Tryz.func3
    (ChangeSpec.witness6 (enc := enc) (C := Tryz.checked) false ⟨#[], #[.string ⟨#[]⟩, .bool false, .slice none 0 0], []⟩ 8 (by kernel_rfl) (by kernel_rfl) (by kernel_rfl) (by kernel_rfl)) ?_
  intro W base args ds gs before hval0 hW hcnd hsz0 _
  have hsz : (DataW.weightsEach Tryz.prog (Tryz.f3.params.toList ++ Rows.seriesReduceSpec.plain.varTypes Tryz.prog) (ds ++ gs)).all (· ≤ reachBytes) = true := hsz0
  have hval : ∀ (j : Nat) t v, Tryz.f3.params[j]? = some t → args[j]? = some v → Value.okWide Tryz.prog W .any base t v := hval0
  have hW' := hW
  obtain ⟨p, q, hA0, hV, rfl, hfz, hnd⟩ := hW
  have hA : DataW.TrodAll enc Tryz.prog W 0 (fun _ => true) true Tryz.f3.params.toList args.toList ds p := hA0
  rw [Tryz.params3] at hA hval hsz
  obtain ⟨v0, vs0, d0, ds0, p0, q0, hargs, rfl, rfl, h0, r0⟩ := trodAll_cons hA
  obtain ⟨v1, vs1, d1, ds1, p1, q1, rfl, rfl, rfl, h1, r1⟩ := trodAll_cons r0
  obtain ⟨v2, vs2, d2, ds2, p2, q2, rfl, rfl, rfl, h2, r2⟩ := trodAll_cons r1
  obtain ⟨rfl, rfl, rfl⟩ := trodAll_nil r2
  obtain rfl : args = #[v0, v1, v2] := by cases args; simp_all
  obtain ⟨rfl, rfl⟩ := trodVars_none hV
  have k0 := h0
  have lt0 : ∀ x ∈ p0, x.block < W.heap.size := by obtain ⟨m, hm⟩ := k0; exact DataW.trod_lt m _ _ _ hm
  obtain ⟨s0, e0, hS0⟩ : ∃ s, v0 = .string s ∧ s.size ≤ reachBytes := by
    obtain ⟨fuel, hf⟩ := h0
    obtain ⟨x0, rfl, rfl, rfl, _⟩ := open_string Tryz.underlying9 (hval 0 9 v0 rfl rfl) k0
    refine str_of_trod hf (fun q hq => ?_)
    have := List.all_eq_true.1 hsz _ (DataW.weights_mem_each (j := 0) (t := 9) rfl rfl q hq)
    simpa using this
  subst e0
  obtain ⟨x1, rfl, rfl, rfl⟩ := open_bool Tryz.underlying4 (hval 1 4 v1 rfl rfl) h1
  have k2 := h2
  have lt2 : ∀ x ∈ p2, x.block < W.heap.size := by obtain ⟨m, hm⟩ := k2; exact DataW.trod_lt m _ _ _ hm
  obtain ⟨a2, n2, c2, rfl⟩ := okWide_slice Tryz.underlying22 (hval 2 22 v2 rfl rfl)
  obtain ⟨l2, hP2, hR2, hL2⟩ : ∃ l, Pns W (.slice a2 n2 c2) l ∧ (True) ∧ l.length ≤ 5864062014634 := by
    obtain ⟨fuel, hf⟩ := h2
    refine pns_of_trod hf (fun q hq => ?_)
    have := List.all_eq_true.1 hsz _ (DataW.weights_mem_each (j := 2) (t := 22) rfl rfl q hq)
    simpa using this
  clear hA0 hval0
  refine (walk s0 x1 a2 n2 c2 l2 W hS0 hP2 hR2 hL2).mono fun e W' ⟨he, bel⟩ => ?_
  subst he
  exact ⟨_, rfl, _, _, _, [], _, [], hW', trodAll_mk1 (shut_bool Tryz.underlying4 _), (trodAll_cons_mk (Below.trod laidOut (by kernel_rfl) (of_decide_eq_true (by kernel_rfl)) k0 bel lt0) (trodAll_cons_mk (shut_bool Tryz.underlying4 _) (trodAll_cons_mk (Below.trod laidOut (by kernel_rfl) (of_decide_eq_true (by kernel_rfl)) k2 bel lt2) trodAll_mk0))), rfl, bel.frame _, fun h => by cases h⟩
theorem over : Rows.seriesReduceRow.holds Tryz.pinned (OpenSpec.ofChange Rows.seriesReduceSpec) :=
  OpenClaim.holds_of_wide 3 Tryz.f3 rfl rfl rfl rfl rfl rfl rfl ⟨rfl, rfl, rfl, rfl, rfl⟩ rfl rfl rfl rfl rfl (by kernel_rfl) Tryz.func3 (by kernel_rfl)
    (of_decide_eq_true (by kernel_rfl)) (by unfold Func.isWrapper; first | (rw [if_pos (by decide +kernel)]; kernel_rfl) | (rw [if_neg (by decide +kernel)]; exact ⟨rfl, rfl⟩))
    (fun os started H enc _ => lifted os started H enc)
end Go.Proofs.YtejdmielhaldaaaGreat.seriesReduce
namespace Go.Proofs.YtejdmielhaldaaaGreat
/-- The statement. -/
theorem seriesReduce_holds : Rows.SeriesReduceSaid := seriesReduce.over
#print axioms seriesReduce_holds
end Go.Proofs.YtejdmielhaldaaaGreat
