/- The variables that the rows list; a value that came in; the frame's step. -/
import Derived.Test.YtfbiaffdfolbgaaGreatDoorVx
import Derived.Test.YtfbiaffdfolbgaaGreatDoorVy
import Derived.Test.YtfbiaffdfolbgaaGreatDoorShelfb
import Derived.Lib.LaidTab
import Derived.Stop.LaidErr
import Derived.HandedShaped
import Derived.Deep.Fields
import Derived.Deep.Slices
import Derived.ChangeArms
import Derived.ProofKit
import Derived.ChangeOld
import Derived.Lay
import Derived.LaidOnce
import Derived.SevenTiedAt
import Derived.SizedLaws
namespace Go.Proofs.YtfbiaffdfolbgaaGreatDoor
set_option linter.unusedVariables false
open Go.RowKit Go.Maps Go.ChangeMaps Go.MapKept Go.ChangeShapes Go.WideShapes Go.ChangeAt Go.Deep
/-- The variables that the rows list. -/
def laidV : List (String × DataW Unit) := [("math/bits.deBruijn32tab", Rows.laid_math_bits_deBruijn32tab), ("math/bits.deBruijn64tab", Rows.laid_math_bits_deBruijn64tab), ("internal/strconv.uint64pow10", Rows.laid_internal_strconv_uint64pow10), ("unicode/utf8.acceptRanges", Rows.laid_unicode_utf8_acceptRanges), ("strconv.ErrRange", Rows.laid_strconv_ErrRange), ("strconv.ErrSyntax", Rows.laid_strconv_ErrSyntax), ("unicode/utf8.first", Rows.laid_unicode_utf8_first)]
set_option maxRecDepth 100000 in
theorem laidV_ok (os : Os) (args : Array Value) : laidMetH Tryz.prog laidV ((World.laidAll Tryz.prog os laidV).forCall (fun _ _ => 0) ⟨#[], args, []⟩).memory := by
  rw [MakeChecks.laidMetH_plain _ _ _ (by kernel_rfl)]
  exact laidMet_laidAll _ (by kernel_rfl) (by kernel_rfl)
theorem star : "*" ++ "errors.errorString" = "*errors.errorString" := by decide
theorem row135 (u : TypeId) (h : Tryz.prog.typeName? 3 u = some "*errors.errorString") : u = 135 :=
  typeName_ptr_named (nm := "errors.errorString") (by rw [star]; kernel_rfl) (by kernel_rfl) (by decide) u (by rw [star]; exact h)
theorem pow_is : (Rows.laid_internal_strconv_uint64pow10 : DataW Unit) = Lib.tabData .u64 Lib.pow10Tab := by kernel_rfl
set_option maxRecDepth 100000 in
theorem G_of {W : World} (hL : laidMetH Tryz.prog laidV W) (hsh : W.ShapedOpen Tryz.prog) : G W := by
  rw [MakeChecks.laidMetH_plain _ _ _ (by kernel_rfl)] at hL
  have h1 := hL.tail.tail
  rw [pow_is] at h1
  have h2 := h1.tail.tail
  refine ⟨Tryz.laysM145.s1_3 W hsh, ?_, ?_, ?_⟩
  · exact Lib.tabIs_of_head (g := 3) (t := 127) (e := 74) (n := 20) (by kernel_rfl) (by kernel_rfl) Tryz.underlying127 Tryz.underlying74 (by kernel_rfl) (by kernel_rfl) h1
  · obtain ⟨a, s, hv, _⟩ := laid_sentinel h2.tail (g := 1) (ti := 70) (tp := 135) (te := 137) (ts := 9) (by kernel_rfl) (by kernel_rfl) Tryz.underlying70 row135 Tryz.underlying135 Tryz.underlying137 rfl rfl Tryz.underlying9 (by kernel_rfl) (by kernel_rfl)
    exact ⟨_, _, hv⟩
  · obtain ⟨a, s, hv, _⟩ := laid_sentinel h2 (g := 2) (ti := 70) (tp := 135) (te := 137) (ts := 9) (by kernel_rfl) (by kernel_rfl) Tryz.underlying70 row135 Tryz.underlying135 Tryz.underlying137 rfl rfl Tryz.underlying9 (by kernel_rfl) (by kernel_rfl)
    exact ⟨_, _, hv⟩
theorem add_at (b o k : Nat) : (⟨b, o, none⟩ : Addr).add k = ⟨b, o + k, none⟩ := by cases k <;> simp [Addr.add]
theorem own : ownKnob Tryz.prog.godebug = none := by kernel_rfl
theorem laidOut : laidOutB Tryz.prog = true := by kernel_rfl
section
variable {H : Type} {enc : TypeId × Value → H}
/-- The wrap: with what the rows list, with the lengths' bounds, and with the world's shape. -/
theorem wrap {a : Assume} {C : Checked} {os : Os} {f : FuncId} {fn : Func} {s : ChangeSpec} {conds : List PathCond} {apart fresh handsOn again : Bool} {X : World → Array Value → Prop}
    (hX : ∀ (w w' : World) (args : Array Value), w.heap = w'.heap → X w args → X w' args)
    (own : ownKnob C.prog.godebug = none) (started : os.Started) (noInit : C.prog.inits.idxOf? f = none) (hfn : C.prog.funcs[f]? = some fn)
    (witness : ∃ (w : World) (tape : Tape) (i : Input), w.os = os ∧ (w.forCall tape i).Shaped C.prog ∧ i.vars = [] ∧ Input.okWide C.prog (w.forCall tape i) .any w.heap.size f i ∧
      ((s.pre enc C.prog fn conds apart (w.forCall tape i).memory i.args ∧ X (w.forCall tape i).memory i.args) ∧ sizedMet enc C.prog fn (OpenSpec.ofChange s) apart (w.forCall tape i).memory i.args) ∧ a.holds C.prog (lone (Frame.enter C.prog f i.args .normal) [] (w.forCall tape i)))
    (contract : ∀ (W : World) (base : Nat) (args : Array Value) (ds gs : List (DataW H)) (before : List MemPlace),
      (∀ (j : Nat) t v, fn.params[j]? = some t → args[j]? = some v → Value.okWide C.prog W .any base t v) →
      DataW.Whole enc C.prog fn.params.toList s.vars apart W args.toList ds gs before →
      conds.all (PathCond.test C.prog ⟨fn.params.toList, ds, s.plain.varTypes C.prog, gs⟩) = true →
      (DataW.weightsEach C.prog (fn.params.toList ++ s.plain.varTypes C.prog) (ds ++ gs)).all (· ≤ reachBytes) = true → X W args → W.ShapedOpen C.prog →
      Calls C.prog f args W fun e W' => ∃ v, e = .returned v ∧ s.post enc C.prog fn apart fresh handsOn again W args v W') :
    ReturnsInHanded a C os f .any (fun w args => (s.pre enc C.prog fn conds apart w args ∧ X w args) ∧ sizedMet enc C.prog fn (OpenSpec.ofChange s) apart w args) (s.post enc C.prog fn apart fresh handsOn again) := by
  refine returnsInHanded_of_calls own started noInit witness ?_
  intro w tape i _ hsh _ hok hpre hholds
  obtain ⟨_, _, _, fn', hfn', _, _, _, _, hval⟩ := hok
  have e : fn' = fn := Option.some.inj (hfn'.symm.trans hfn)
  subst e
  obtain ⟨⟨⟨ds, gs, before, hw, hc⟩, hx⟩, hz⟩ := hpre
  have hw' := DataW.Whole.of_heap (w' := w.forCall tape i) (by rfl) hw
  refine (contract (w.forCall tape i) w.heap.size i.args ds gs before hval hw' hc (hz.weights hw) (hX _ _ _ (by rfl) hx) hsh).mono fun e W' ⟨v, he, hp⟩ => ?_
  subst he
  exact ChangeSpec.post_blind hp
variable {W : World} {n : Nat}
set_option maxRecDepth 100000 in
/-- A value's cells, read. -/
theorem vl_cells {cs : List Value} {x : DataW H × List MemPlace} (hl : cs.length = 2) (h : DataW.trod enc Tryz.prog W 0 (fun _ => true) true n 25 cs = some x) : ∃ v : Vl, cs = [.int .i64 v.kind, .int .i64 v.n] := by
  match cs, hl with
  | [v0, v1], _ =>
    obtain ⟨xs, k, _, _, _, hxl, hf⟩ := DataW.trod_struct Tryz.underlying25 h
    have g0 : DataW.trod enc Tryz.prog W 0 (fun _ => true) true k 3 (([v0, v1].drop 0).take (Tryz.prog.cellsOf 3)) = xs[0]? := hf 0 _ rfl
    have g1 : DataW.trod enc Tryz.prog W 0 (fun _ => true) true k 2 (([v0, v1].drop 1).take (Tryz.prog.cellsOf 2)) = xs[1]? := hf 1 _ rfl
    have k3 : Tryz.prog.cellsOf 3 = 1 := by kernel_rfl
    have k2 : Tryz.prog.cellsOf 2 = 1 := by kernel_rfl
    simp only [k3, k2, List.drop_zero, List.drop_succ_cons, List.take_succ_cons, List.take_zero] at g0 g1
    match xs, hxl with
    | [y0, y1], _ =>
      simp at g0 g1
      obtain ⟨a0, h01, _, h03⟩ := DataW.trod_int Tryz.underlying3 g0
      obtain ⟨a1, h11, _, h13⟩ := DataW.trod_int Tryz.underlying2 g1
      simp at h01 h11
      subst h01 h11
      exact ⟨⟨a0, a1⟩, rfl⟩
set_option maxRecDepth 100000 in
theorem vl_arg {v : Value} {b0 : Nat} {d : DataW H} {ps : List MemPlace} (hval : Value.okWide Tryz.prog W .any b0 25 v) (h : DataW.Trod enc Tryz.prog W 0 (fun _ => true) true 25 v d ps) : ∃ u : Vl, v = vlV u := by
  obtain ⟨cs, rfl, hs⟩ := okWide_struct Tryz.underlying25 hval
  obtain ⟨fuel, hf⟩ := h
  have k25 : Tryz.prog.cellsOf 25 = 2 := by kernel_rfl
  rw [k25] at hs
  obtain ⟨u, hcs⟩ := vl_cells (by simpa [Value.cells] using hs) hf
  refine ⟨u, ?_⟩
  simp only [Value.cells] at hcs
  unfold vlV
  congr 1
  apply Array.toList_inj.1
  rw [hcs]
theorem cells2_at {b o : Nat} {cs : List Value} (h : W.cells? 0 ⟨b, o, none⟩ 2 = some cs) : ∃ v0 v1, cs = [v0, v1] ∧ W.cell? ⟨b, o, none⟩ = some v0 ∧ W.cell? ⟨b, o + 1, none⟩ = some v1 := by
  obtain ⟨_, hlen, hcell⟩ := World.cells?_some h
  match cs, hlen with
  | [v0, v1], _ =>
    have e0 := hcell 0 (by omega)
    have e1 := hcell 1 (by omega)
    rw [add_at] at e0 e1
    exact ⟨v0, v1, rfl, by simpa using e0, by simpa using e1⟩
theorem vals_of_trod {v : Value} {x : DataW H × List MemPlace} (h : DataW.trod enc Tryz.prog W 0 (fun _ => true) true n 22 [v] = some x) : ∃ l, Vls W v l := by
  rcases open_slice Tryz.underlying22 h with ⟨hcs, _⟩ | ⟨a, len, cap, m, k, D, Pl, hcs, _, hl, hm, hmm, hxx, hx⟩
  · simp at hcs
    subst hcs
    exact ⟨[], none, 0, rfl, .inl rfl⟩
  · simp at hcs hmm
    subst hcs hmm
    have k25 : Tryz.prog.cellsOf 25 = 2 := by kernel_rfl
    rw [k25] at hx
    by_cases h0 : len = 0
    · subst h0
      exact ⟨[], some a, m, rfl, .inl rfl⟩
    · obtain ⟨b, o, spot⟩ := a
      obtain ⟨cs0, hc0, _⟩ := hx 0 (by omega)
      obtain ⟨_, hlen0, hcell0⟩ := World.cells?_some hc0
      have hc00 := hcell0 0 (by omega)
      rw [List.getElem?_eq_getElem (by omega)] at hc00
      have hspot : spot = none := by simpa [Addr.add] using World.cell?_spot hc00
      subst hspot
      have hv : ∀ i, i < len → ∃ q : Vl, VAt W b (o + i * 2) q := fun i hi => by
        obtain ⟨cs, h1, h2⟩ := hx i (by omega)
        rw [add_at] at h1
        obtain ⟨v0, v1, rfl, c0, c1⟩ := cells2_at h1
        obtain ⟨q, hq⟩ := vl_cells (by simp) h2
        simp only [List.cons.injEq, and_true] at hq
        obtain ⟨rfl, rfl⟩ := hq
        exact ⟨q, c0, c1⟩
      obtain ⟨q, hq⟩ : ∃ q : Nat → Vl, ∀ i, i < len → VAt W b (o + i * 2) (q i) := by
        refine ⟨fun i => if hi : i < len then Classical.choose (hv i hi) else zer, fun i hi => ?_⟩
        simp only [hi, dif_pos]
        exact Classical.choose_spec (hv i hi)
      refine ⟨(List.range len).map q, some ⟨b, o, none⟩, m, by simp, .inr ⟨b, o, rfl, fun t ht => ?_⟩⟩
      have ht' : t < len := by simpa using ht
      have eg : ((List.range len).map q).getD t zer = q t := by simp [ht']
      rw [eg]
      exact hq t ht'
end
end Go.Proofs.YtfbiaffdfolbgaaGreatDoor
