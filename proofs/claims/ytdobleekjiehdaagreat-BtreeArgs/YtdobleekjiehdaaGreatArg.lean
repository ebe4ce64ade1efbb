/- BtreeArgs: no pages, and pages that are too small. Conditions: none beyond the row's. -/
import Derived.Test.YtdobleekjiehdaaGreatSml
import Derived.Test.YtdobleekjiehdaaGreatLvw
import Derived.Test.YtdobleekjiehdaaGreatRows
import Derived.WalkKit
import Derived.OpenShut
import Derived.ShutString
import Derived.Deep.Fields
import Derived.ChangeArms
import Derived.ProofKit
import Derived.ChangeOld
namespace Go.Proofs.YtdobleekjiehdaaGreat.btreeArgs
open Go.ChangeShapes Go.WideShapes Go.ChangeAt Go.RowKit Go.Deep
open Go.ChangeMaps (open_string shut_string)
set_option linter.unusedVariables false
set_option maxRecDepth 100000 in
theorem tree_cells {H : Type} {enc : TypeId × Value → H} {W : World} {n : Nat} {cs : List Value} {x : DataW H × List MemPlace} (hl : cs.length = 3) (h : DataW.trod enc Tryz.prog W 0 (fun _ => true) true n 31 cs = some x) :
    ∃ (r k d : Int), cs = [.int .i64 r, .int .i64 k, .int .i64 d] := by
  match cs, hl with
  | [v0, v1, v2], _ =>
    obtain ⟨xs, k, _, _, _, hxl, hf⟩ := DataW.trod_struct Tryz.underlying31 h
    have g0 : DataW.trod enc Tryz.prog W 0 (fun _ => true) true k 3 (([v0, v1, v2].drop 0).take (Tryz.prog.cellsOf 3)) = xs[0]? := hf 0 _ rfl
    have g1 : DataW.trod enc Tryz.prog W 0 (fun _ => true) true k 3 (([v0, v1, v2].drop 1).take (Tryz.prog.cellsOf 3)) = xs[1]? := hf 1 _ rfl
    have g2 : DataW.trod enc Tryz.prog W 0 (fun _ => true) true k 3 (([v0, v1, v2].drop 2).take (Tryz.prog.cellsOf 3)) = xs[2]? := hf 2 _ rfl
    have k3 : Tryz.prog.cellsOf 3 = 1 := by kernel_rfl
    simp only [k3, List.drop_zero, List.drop_succ_cons, List.take_succ_cons, List.take_zero] at g0 g1 g2
    match xs, hxl with
    | [y0, y1, y2], _ =>
      simp at g0 g1 g2
      obtain ⟨a0, h01, _, _⟩ := DataW.trod_int Tryz.underlying3 g0
      obtain ⟨a1, h11, _, _⟩ := DataW.trod_int Tryz.underlying3 g1
      obtain ⟨a2, h21, _, _⟩ := DataW.trod_int Tryz.underlying3 g2
      simp at h01 h11 h21
      subst h01 h11 h21
      exact ⟨a0, a1, a2, rfl⟩
set_option maxRecDepth 100000 in
theorem tree_arg {H : Type} {enc : TypeId × Value → H} {W : World} {v : Value} {b0 : Nat} {d : DataW H} {ps : List MemPlace} (hval : Value.okWide Tryz.prog W .any b0 31 v) (h : DataW.Trod enc Tryz.prog W 0 (fun _ => true) true 31 v d ps) :
    ∃ (r k d : Int), v = .agg #[.int .i64 r, .int .i64 k, .int .i64 d] := by
  obtain ⟨cs, rfl, hs⟩ := okWide_struct Tryz.underlying31 hval
  obtain ⟨fuel, hf⟩ := h
  have k31 : Tryz.prog.cellsOf 31 = 3 := by kernel_rfl
  rw [k31] at hs
  obtain ⟨r, k, d, hcs⟩ := tree_cells (by simpa [Value.cells] using hs) hf
  refine ⟨r, k, d, ?_⟩
  simp only [Value.cells] at hcs
  congr 1
  apply Array.toList_inj.1
  rw [hcs]
set_option maxRecDepth 100000 in
set_option maxHeartbeats 2000000 in
theorem walk (a0 r q d : Int) (k : ByteArray) (w : World) (w0 : (Lit.int .i64 a0).wf = true) (hk : k.size ≤ maxLen) :
    Calls Tryz.prog 8 #[.int .i64 a0, .agg #[.int .i64 r, .int .i64 q, .int .i64 d], .string k] w fun e w' => e = .returned (.bool true) ∧ Below w.heap.size w w' := by
  have hB1 := (Below.refl w.heap.size w).alloc (Nat.le_refl _) (.cells #[.int .i64 r, .int .i64 q, .int .i64 d] 31)
  by_cases h1 : 60000 < k.size
  · have d1 : decide ((60000 : Int) < (k.size : Int)) = true := by simp; omega
    go_enter Tryz.func8, Tryz.ntmps8
    go_wp2_with (first | (go_at_call 11; refine live_ok.mono ?_; rintro e w2 ⟨rfl, hb2⟩))
    go_ret
    exact ⟨rfl, hB1.trans (hb2.mono hB1.size)⟩
  have d1 : decide ((60000 : Int) < (k.size : Int)) = false := by simp; omega
  by_cases h2 : 480 ≤ a0
  · have d2 : decide ((480 : Int) ≤ a0) = true := by simp; omega
    go_enter Tryz.func8, Tryz.ntmps8
    go_wp2_with (first | (go_at_call 11; refine live_ok.mono ?_; rintro e w2 ⟨rfl, hb2⟩))
    go_ret
    exact ⟨rfl, hB1.trans (hb2.mono hB1.size)⟩
  have d2 : decide ((480 : Int) ≤ a0) = false := by simp; omega
  have hr : a0 < 480 := by omega
  have hB0 := hB1.alloc hB1.size (.cells #[.slice none 0 0, .int .i64 10, .int .i64 a0] 29)
  have hT0 : ((w.alloc (.cells #[.int .i64 r, .int .i64 q, .int .i64 d] 31)).alloc (.cells #[.slice none 0 0, .int .i64 10, .int .i64 a0] 29)).heap[w.heap.size]? = some (.cells #[.int .i64 r, .int .i64 q, .int .i64 d] 31 (0, 0)) := (((Below.refl _ _).alloc (Nat.le_refl _) _).block _ (by simp)).trans (heap_alloc_new w _)
  have hM0 : ((w.alloc (.cells #[.int .i64 r, .int .i64 q, .int .i64 d] 31)).alloc (.cells #[.slice none 0 0, .int .i64 10, .int .i64 a0] 29)).heap[w.heap.size + 1]? = some (.cells #[.slice none 0 0, .int .i64 10, .int .i64 a0] 29 (0, 0)) := by
    have := heap_alloc_new (w.alloc (.cells #[.int .i64 r, .int .i64 q, .int .i64 d] 31)) (.cells #[.slice none 0 0, .int .i64 10, .int .i64 a0] 29)
    rwa [World.size_alloc] at this
  obtain ⟨x0, x1, x2⟩ := cells3 hT0
  clear w0 hk h1 h2
  have ph : Hid True := trivial
  go_enter Tryz.func8, Tryz.ntmps8
  go_wp2_with (first
    | (have _t := ph; go_at_call 16; refine (get_nil _ _ _ _ _).mono ?_; rintro e w1 ⟨rfl, hb1⟩; have hT1 := (hb1.block _ (lt_of_block hT0)).trans hT0; have hM1 := (hb1.block _ (lt_of_block hM0)).trans hM0; have hB1 := hB0.trans (hb1.mono hB0.size); obtain ⟨y0, y1, y2⟩ := cells3 hT1)
    | (have _t := ph; go_at_call 26; refine (put_nil _ _ _ _ _ _).mono ?_; rintro e w2 ⟨rfl, hb2⟩; have hT2 := (hb2.block _ (lt_of_block hT1)).trans hT1; have hM2 := (hb2.block _ (lt_of_block hM1)).trans hM1; have hB2 := hB1.trans (hb2.mono hB1.size); have hT21 := ((ba w2 (Obj.cells #[.int .i64 0, .int .i64 0, .int .i64 0] 31)).block _ (lt_of_block hT2)).trans hT2; have hM21 := ((ba w2 (Obj.cells #[.int .i64 0, .int .i64 0, .int .i64 0] 31)).block _ (lt_of_block hM2)).trans hM2; have hB21 := hB2.trans ((ba w2 (Obj.cells #[.int .i64 0, .int .i64 0, .int .i64 0] 31)).mono hB2.size); obtain ⟨z0, z1, z2⟩ := cells3 hT21)
    | (have _t := ph; go_at_call 27; refine (delete_nil _ _ _ _ _).mono ?_; rintro e w3 ⟨rfl, hb3⟩; have hT3 := (hb3.block _ (lt_of_block hT21)).trans hT21; have hM3 := (hb3.block _ (lt_of_block hM21)).trans hM21; have hB3 := hB21.trans (hb3.mono hB21.size); have hT31 := ((ba w3 (Obj.cells #[.int .i64 0, .int .i64 0, .int .i64 0] 31)).block _ (lt_of_block hT3)).trans hT3; have hM31 := ((ba w3 (Obj.cells #[.int .i64 0, .int .i64 0, .int .i64 0] 31)).block _ (lt_of_block hM3)).trans hM3; have hB31 := hB3.trans ((ba w3 (Obj.cells #[.int .i64 0, .int .i64 0, .int .i64 0] 31)).mono hB3.size); obtain ⟨u0, u1, u2⟩ := cells3 hT31)
    | (have _t := ph; go_at_call 18; refine (scan_nil _ _ _ _ _ _).mono ?_; rintro e w4 ⟨rfl, hb4⟩; have hT4 := (hb4.block _ (lt_of_block hT31)).trans hT31; have hM4 := (hb4.block _ (lt_of_block hM31)).trans hM31; have hB4 := hB31.trans (hb4.mono hB31.size); obtain ⟨v0, v1, v2⟩ := cells3 hT4)
    | (have _t := ph; go_at_call 21; refine (pages_nil _ _ _ _).mono ?_; rintro e w5 ⟨rfl, hb5⟩; have hT5 := (hb5.block _ (lt_of_block hT4)).trans hT4; have hM5 := (hb5.block _ (lt_of_block hM4)).trans hM4; have hB5 := hB4.trans (hb5.mono hB4.size); obtain ⟨s0, s1, s2⟩ := cells3 hT5; clear ph; have hg6 := get_small r q d k w5 (w.heap.size + 1) a0 (lt_of_block hM5) (cells3 hM5).2.2 hr)
    | (go_at_call 16; refine hg6.mono ?_; rintro e w6 ⟨rfl, hb6⟩; have hT6 := (hb6.block _ (lt_of_block hT5)).trans hT5; have hM6 := (hb6.block _ (lt_of_block hM5)).trans hM5; have hB6 := hB5.trans (hb6.mono hB5.size); obtain ⟨t0, t1, t2⟩ := cells3 hT6; have hp7 := put_small r q d k ⟨#[]⟩ w6 (w.heap.size + 1) a0 (lt_of_block hM6) (cells3 hM6).2.2 hr)
    | (go_at_call 26; refine hp7.mono ?_; rintro e w7 ⟨rfl, hb7⟩; have hT7 := (hb7.block _ (lt_of_block hT6)).trans hT6; have hM7 := (hb7.block _ (lt_of_block hM6)).trans hM6; have hB7 := hB6.trans (hb7.mono hB6.size); have hT71 := ((ba w7 (Obj.cells #[.int .i64 0, .int .i64 0, .int .i64 0] 31)).block _ (lt_of_block hT7)).trans hT7; have hM71 := ((ba w7 (Obj.cells #[.int .i64 0, .int .i64 0, .int .i64 0] 31)).block _ (lt_of_block hM7)).trans hM7; have hB71 := hB7.trans ((ba w7 (Obj.cells #[.int .i64 0, .int .i64 0, .int .i64 0] 31)).mono hB7.size); obtain ⟨p0, p1, p2⟩ := cells3 hT71; have hp8 := pages_small r q d (w7.alloc (Obj.cells #[.int .i64 0, .int .i64 0, .int .i64 0] 31)) (w.heap.size + 1) a0 (lt_of_block hM71) (cells3 hM71).2.2 hr)
    | (go_at_call 21; refine hp8.mono ?_; rintro e w8 ⟨rfl, hb8⟩; have hT8 := (hb8.block _ (lt_of_block hT71)).trans hT71; have hM8 := (hb8.block _ (lt_of_block hM71)).trans hM71; have hB8 := hB71.trans (hb8.mono hB71.size); skip)
    | (go_at_call 14; refine (num_any _).mono ?_; rintro e wn ⟨rfl, hwn⟩; subst wn)
    | (go_at_call 11; refine live_ok.mono ?_; rintro e w9 ⟨rfl, hb9⟩))
  go_ret
  exact ⟨rfl, hB8.trans (hb9.mono hB8.size)⟩
theorem own : ownKnob Tryz.prog.godebug = none := by kernel_rfl
theorem laidOut : laidOutB Tryz.prog = true := by kernel_rfl
/-! ### THE ROW's STEP: WRITTEN OUT: LEAVE IT -/
set_option maxRecDepth 100000 in
theorem lifted (os : Os) (started : os.Started) (H : Type) (enc : TypeId × Value → H) :
    ReturnsInHanded {} Tryz.checked os 8 .any (Rows.btreeArgsSpec.pre6 enc Tryz.prog Tryz.f8 Rows.btreeArgsRow.domain false) (Rows.btreeArgsSpec.post enc Tryz.prog Tryz.f8 false true false false) := by
  refine returnsInHanded_of_change (C := Tryz.checked) own started (by kernel_rfl) Tryz.func8
    (ChangeSpec.witness6 (enc := enc) (C := Tryz.checked) false ⟨#[], #[.int .i64 0, .agg #[.int .i64 0, .int .i64 0, .int .i64 0], .string ⟨#[]⟩], []⟩ 8 (by kernel_rfl) (by kernel_rfl) (by kernel_rfl) (by kernel_rfl)) ?_
  intro W base args ds gs before hval0 hW hcnd _
  have hval : ∀ (j : Nat) t v, Tryz.f8.params[j]? = some t → args[j]? = some v → Value.okWide Tryz.prog W .any base t v := hval0
  have hW' := hW
  obtain ⟨p, q, hA0, hV, rfl, hfz, hnd⟩ := hW
  have hA : DataW.TrodAll enc Tryz.prog W 0 (fun _ => true) true Tryz.f8.params.toList args.toList ds p := hA0
  rw [Tryz.params8] at hA hval
  obtain ⟨v0, vs0, d0, ds0, p0, q0, hargs, rfl, rfl, h0, r0⟩ := trodAll_cons hA
  obtain ⟨v1, vs1, d1, ds1, p1, q1, rfl, rfl, rfl, h1, r1⟩ := trodAll_cons r0
  obtain ⟨v2, vs2, d2, ds2, p2, q2, rfl, rfl, rfl, h2, r2⟩ := trodAll_cons r1
  obtain ⟨rfl, rfl, rfl⟩ := trodAll_nil r2
  obtain rfl : args = #[v0, v1, v2] := by cases args; simp_all
  obtain ⟨rfl, rfl⟩ := trodVars_none hV
  obtain ⟨a0, rfl, rfl, rfl, w0⟩ := open_int Tryz.underlying3 (hval 0 3 v0 rfl rfl) h0
  have k1 := h1
  have lt1 : ∀ x ∈ p1, x.block < W.heap.size := by obtain ⟨m, hm⟩ := k1; exact DataW.trod_lt m _ _ _ hm
  obtain ⟨r1', k1', d1', rfl⟩ := tree_arg (hval 1 31 v1 rfl rfl) h1
  obtain ⟨a2, rfl, rfl, rfl, w2⟩ := open_string Tryz.underlying9 (hval 2 9 v2 rfl rfl) h2
  clear hA0 hval0
  refine (walk a0 r1' k1' d1' a2 W w0 w2).mono fun e W' ⟨he, bel⟩ => ?_
  subst he
  exact ⟨_, rfl, _, _, _, [], _, [], hW', trodAll_mk1 (shut_bool Tryz.underlying4 _), (trodAll_cons_mk (shut_int Tryz.underlying3 w0) (trodAll_cons_mk (Below.trod laidOut (by kernel_rfl) (of_decide_eq_true (by kernel_rfl)) k1 bel lt1) (trodAll_cons_mk (shut_string Tryz.underlying9 w2) trodAll_mk0))), rfl, bel.frame _, fun h => by cases h⟩

theorem over : Rows.btreeArgsRow.holds Tryz.pinned (OpenSpec.ofChange Rows.btreeArgsSpec) :=
  OpenClaim.holds_of_wide 8 Tryz.f8 rfl rfl rfl rfl rfl rfl rfl ⟨rfl, rfl, rfl, rfl, rfl⟩ rfl rfl rfl rfl rfl (by kernel_rfl) Tryz.func8 (by kernel_rfl)
    (of_decide_eq_true (by kernel_rfl)) (by unfold Func.isWrapper; first | (rw [if_pos (by decide +kernel)]; kernel_rfl) | (rw [if_neg (by decide +kernel)]; exact ⟨rfl, rfl⟩))
    (fun os started H enc _ => lifted os started H enc)

end Go.Proofs.YtdobleekjiehdaaGreat.btreeArgs
namespace Go.Proofs.YtdobleekjiehdaaGreat
/-- The statement. -/
theorem btreeArgs_holds : Rows.BtreeArgsSaid := btreeArgs.over
#print axioms btreeArgs_holds
end Go.Proofs.YtdobleekjiehdaaGreat
