/- The variables that the rows list; the frame's step. -/
import Derived.Test.YtaffplmfnincfaaGreatDoorOvOx
import Derived.Lib.LaidTab
import Derived.Stop.LaidErr
import Derived.HandedShaped
import Derived.Deep.Fields
import Derived.Deep.Slices
import Derived.ChangeArms
import Derived.ChangeSame
import Derived.ProofKit
import Derived.ChangeOld
import Derived.Lay
import Derived.LaidOnce
import Derived.SevenTiedAt
import Derived.SizedLaws
namespace Go.Proofs.YtaffplmfnincfaaGreatDoor
set_option linter.unusedVariables false
open Go.RowKit Go.Maps Go.ChangeMaps Go.MapKept Go.ChangeShapes Go.WideShapes Go.ChangeAt Go.Deep
/-- The variables that the rows list. -/
def laidV : List (String × DataW Unit) := [("math/bits.deBruijn32tab", Rows.laid_math_bits_deBruijn32tab), ("math/bits.deBruijn64tab", Rows.laid_math_bits_deBruijn64tab), ("internal/strconv.uint64pow10", Rows.laid_internal_strconv_uint64pow10), ("unicode/utf8.acceptRanges", Rows.laid_unicode_utf8_acceptRanges), ("strconv.ErrRange", Rows.laid_strconv_ErrRange), ("strconv.ErrSyntax", Rows.laid_strconv_ErrSyntax), ("klaxon/math.signs", Rows.laid_klaxon_math_signs), ("unicode/utf8.first", Rows.laid_unicode_utf8_first)]
set_option maxRecDepth 100000 in
theorem laidV_ok (os : Os) (args : Array Value) : laidMetH Tryz.prog laidV ((World.laidAll Tryz.prog os laidV).forCall (fun _ _ => 0) ⟨#[], args, []⟩).memory := by
  rw [MakeChecks.laidMetH_plain _ _ _ (by kernel_rfl)]
  exact laidMet_laidAll _ (by kernel_rfl) (by kernel_rfl)
theorem star : "*" ++ "errors.errorString" = "*errors.errorString" := by decide
theorem row249 (u : TypeId) (h : Tryz.prog.typeName? 3 u = some "*errors.errorString") : u = 249 :=
  typeName_ptr_named (nm := "errors.errorString") (by rw [star]; kernel_rfl) (by kernel_rfl) (by decide) u (by rw [star]; exact h)
theorem pow_is : (Rows.laid_internal_strconv_uint64pow10 : DataW Unit) = Lib.tabData .u64 Lib.pow10Tab := by kernel_rfl
/-! ### The signs -/
def sgD (k : Nat) : DataW Unit := .agg [.lit (.string (sg k).1.data.toList), .lit (.int .i64 (sg k).2)]
theorem signs_is : (Rows.laid_klaxon_math_signs : DataW Unit) = .agg ((List.range 15).map sgD) := by kernel_rfl
theorem signA_at : ∀ i : Nat, i < 15 → (signL.flatMap fun p => [Value.string p.1, .int .i64 p.2])[2 * i]? = some (.string (sg i).1) ∧ (signL.flatMap fun p => [Value.string p.1, .int .i64 p.2])[2 * i + 1]? = some (.int .i64 (sg i).2)
  | 0, _ => ⟨rfl, rfl⟩
  | 1, _ => ⟨rfl, rfl⟩
  | 2, _ => ⟨rfl, rfl⟩
  | 3, _ => ⟨rfl, rfl⟩
  | 4, _ => ⟨rfl, rfl⟩
  | 5, _ => ⟨rfl, rfl⟩
  | 6, _ => ⟨rfl, rfl⟩
  | 7, _ => ⟨rfl, rfl⟩
  | 8, _ => ⟨rfl, rfl⟩
  | 9, _ => ⟨rfl, rfl⟩
  | 10, _ => ⟨rfl, rfl⟩
  | 11, _ => ⟨rfl, rfl⟩
  | 12, _ => ⟨rfl, rfl⟩
  | 13, _ => ⟨rfl, rfl⟩
  | 14, _ => ⟨rfl, rfl⟩
  | k + 15, h => absurd h (by omega)
set_option maxRecDepth 100000 in
theorem cells_of_signs {enc : TypeId × Value → Unit} {w : World} {base : Nat} {sp : Nat → Bool} {held : Bool} {fuel : Nat} {cs : List Value} {p : List MemPlace}
    (h : DataW.trod enc Tryz.prog w base sp held fuel 145 cs = some (Rows.laid_klaxon_math_signs, p)) : cs = signL.flatMap fun p => [Value.string p.1, .int .i64 p.2] := by
  rw [signs_is] at h
  have h133 : Tryz.prog.cellsOf 144 = 2 := by kernel_rfl
  have h134 : Tryz.prog.cellsOf 145 = 30 := by kernel_rfl
  have h9 : Tryz.prog.cellsOf 9 = 1 := by kernel_rfl
  have h3 : Tryz.prog.cellsOf 3 = 1 := by kernel_rfl
  cases fuel with
  | zero => simp [DataW.trod] at h
  | succ fuel =>
    simp only [DataW.trod, Tryz.underlying145, h133, h134] at h
    split at h
    · rename_i hl
      obtain ⟨xs, hm, hx⟩ := Option.map_eq_some_iff.1 h
      have hxs : xs.map (·.1) = (List.range 15).map sgD := by
        have := congrArg Prod.fst hx
        simpa using this
      have key : ∀ i, i < 15 → cs[2 * i]? = some (.string (sg i).1) ∧ cs[2 * i + 1]? = some (.int .i64 (sg i).2) := fun i hi => by
        obtain ⟨b, hb, hf⟩ := Lib.mapM_at hm i i (by simp [hi])
        obtain ⟨y0, y1, n, hb2, hlen, g0, g1⟩ := trod_struct2 Tryz.underlying144 hf
        have g0' : DataW.trod enc Tryz.prog w base sp held n 9 ((((cs.drop (i * 2)).take 2).drop 0).take (Tryz.prog.cellsOf 9)) = some y0 := g0
        have g1' : DataW.trod enc Tryz.prog w base sp held n 3 ((((cs.drop (i * 2)).take 2).drop 1).take (Tryz.prog.cellsOf 3)) = some y1 := g1
        rw [h9] at g0'
        rw [h3] at g1'
        obtain ⟨s, e1, e2, _⟩ := DataW.trod_string Tryz.underlying9 g0'
        obtain ⟨z, f1, f2, _⟩ := DataW.trod_int Tryz.underlying3 g1'
        have hd : (xs.map (·.1))[i]? = some (.agg [.lit (.string s.data.toList), .lit (.int .i64 z)]) := by
          rw [List.getElem?_map, hb, hb2, e2, f2]; rfl
        rw [hxs, List.getElem?_map, List.getElem?_range hi] at hd
        have hd2 := Option.some.inj hd
        unfold sgD at hd2
        simp only [DataW.agg.injEq, List.cons.injEq, DataW.lit.injEq, Lit.string.injEq, Lit.int.injEq, true_and, and_true] at hd2
        obtain ⟨q1, q2⟩ := hd2
        have hs : s = (sg i).1 := ba_ext q1.symm
        have a1 : cs[2 * i]? = some (.string s) := by
          have := congrArg (·[0]?) e1
          simpa [List.getElem?_take, List.getElem?_drop, Nat.mul_comm] using this
        have a2 : cs[2 * i + 1]? = some (.int .i64 z) := by
          have := congrArg (·[0]?) f1
          simpa [List.getElem?_take, List.getElem?_drop, Nat.mul_comm] using this
        rw [a1, a2, hs, ← q2]
        exact ⟨rfl, rfl⟩
      have hll : (signL.flatMap fun p => [Value.string p.1, .int .i64 p.2]).length = 30 := rfl
      apply List.ext_getElem?
      intro j
      by_cases hj : j < 30
      · have hdm : j = 2 * (j / 2) ∨ j = 2 * (j / 2) + 1 := by omega
        have k1 := key (j / 2) (by omega)
        have k2 := signA_at (j / 2) (by omega)
        rcases hdm with e | e
        · rw [e, k1.1, k2.1]
        · rw [e, k1.2, k2.2]
      · rw [List.getElem?_eq_none (by omega), List.getElem?_eq_none (by rw [hll]; omega)]
    · cases h
set_option maxRecDepth 100000 in
theorem signs_of {rest : List (String × DataW Unit)} {W : World} (h : laidMet Tryz.prog (("klaxon/math.signs", Rows.laid_klaxon_math_signs) :: rest) W) (hsh : W.ShapedOpen Tryz.prog) : SignsAt W := by
  obtain ⟨cs, h1, h2, _⟩ := hsh.1 0 #[.string ⟨#[]⟩, .int .i64 0, .string ⟨#[]⟩, .int .i64 0, .string ⟨#[]⟩, .int .i64 0, .string ⟨#[]⟩, .int .i64 0, .string ⟨#[]⟩, .int .i64 0, .string ⟨#[]⟩, .int .i64 0, .string ⟨#[]⟩, .int .i64 0, .string ⟨#[]⟩, .int .i64 0, .string ⟨#[]⟩, .int .i64 0, .string ⟨#[]⟩, .int .i64 0, .string ⟨#[]⟩, .int .i64 0, .string ⟨#[]⟩, .int .i64 0, .string ⟨#[]⟩, .int .i64 0, .string ⟨#[]⟩, .int .i64 0, .string ⟨#[]⟩, .int .i64 0] 145 (of_decide_eq_true (by kernel_rfl)) (by kernel_rfl)
  obtain ⟨ps, ⟨g', t', cs', fuel, p, q, hg', ht', hvar, hd, _, _⟩, _⟩ := h
  obtain rfl := Option.some.inj ((show Tryz.prog.globalNamed "klaxon/math.signs" = some 0 by kernel_rfl).symm.trans hg')
  obtain rfl := Option.some.inj ((show (Tryz.prog.globals[0]?).map (·.type) = some 145 by kernel_rfl).symm.trans ht')
  have hv : W.var? Tryz.prog "klaxon/math.signs" = some cs := by
    unfold World.var?
    rw [hg']
    simp [h1]
  rw [hv] at hvar
  have e := cells_of_signs hd
  refine ⟨(0, 0), ?_⟩
  rw [h1]
  have : cs = (signL.flatMap fun p => [Value.string p.1, .int .i64 p.2]).toArray := by
    rw [← e]
    simpa using hvar
  rw [this]
set_option maxRecDepth 100000 in
theorem G_of {W : World} (hL : laidMetH Tryz.prog laidV W) (hsh : W.ShapedOpen Tryz.prog) : G W ∧ SignsAt W := by
  rw [MakeChecks.laidMetH_plain _ _ _ (by kernel_rfl)] at hL
  have h1 := hL.tail.tail
  rw [pow_is] at h1
  have h2 := h1.tail.tail
  refine ⟨⟨Go.Proofs.cell_of_shapedOpen_int (zero := #[.int .i64 0]) (t := 3) hsh (of_decide_eq_true (by kernel_rfl)) (by kernel_rfl) rfl (by kernel_rfl) (by kernel_rfl) Tryz.underlying3, ?_, ?_, ?_⟩, signs_of h2.tail.tail hsh⟩
  · exact Lib.tabIs_of_head (g := 6) (t := 253) (e := 130) (n := 20) (by kernel_rfl) (by kernel_rfl) Tryz.underlying253 Tryz.underlying130 (by kernel_rfl) (by kernel_rfl) h1
  · obtain ⟨a, s, hv, _⟩ := laid_sentinel h2.tail (g := 4) (ti := 200) (tp := 249) (te := 251) (ts := 9) (by kernel_rfl) (by kernel_rfl) Tryz.underlying200 row249 Tryz.underlying249 Tryz.underlying251 rfl rfl Tryz.underlying9 (by kernel_rfl) (by kernel_rfl)
    exact ⟨_, _, hv⟩
  · obtain ⟨a, s, hv, _⟩ := laid_sentinel h2 (g := 5) (ti := 200) (tp := 249) (te := 251) (ts := 9) (by kernel_rfl) (by kernel_rfl) Tryz.underlying200 row249 Tryz.underlying249 Tryz.underlying251 rfl rfl Tryz.underlying9 (by kernel_rfl) (by kernel_rfl)
    exact ⟨_, _, hv⟩
theorem own : ownKnob Tryz.prog.godebug = none := by kernel_rfl
theorem laidOut : laidOutB Tryz.prog = true := by kernel_rfl
section
variable {H : Type} {enc : TypeId × Value → H}
/-- The wrap: with what the rows list, with the lengths' bounds, and with the world's shape. -/
theorem wrap {a : Assume} {C : Checked} {os : Os} {f : FuncId} {fn : Func} {s : ChangeSpec} {conds : List PathCond} {apart fresh handsOn again : Bool} {X : World → Array Value → Prop}
    (hX : ∀ (w w' : World) (args : Array Value), w.heap = w'.heap → X w args → X w' args)
    (own : ownKnob C.prog.godebug = none) (started : os.Started) (noInit : C.prog.inits.idxOf? f = none) (hfn : C.prog.funcs[f]? = some fn)
    (witness : ∃ (w : World) (tape : Tape) (i : Input), w.os = os ∧ (w.forCall tape i).Shaped C.prog ∧ i.vars = [] ∧ Input.okWide C.prog (w.forCall tape i) .any w.heap.size f i ∧
      ((s.pre enc C.prog fn conds apart (w.forCall tape i).memory i.args ∧ X (w.forCall tape i).memory i.args) ∧ sizedMet enc C.prog fn (OpenSpec.ofChange s) apart (w.forCall tape i).memory i.args) ∧ a.holds C.prog (lone (Frame.enter C.prog f i.args .normal) [] (w.forCall tape i)))
    (contract : ∀ (W : World) (base : Nat) (args : Array Value) (ds gs : List (DataW H)) (before : List MemPlace),
      (∀ (j : Nat) t v, fn.params[j]? = some t → args[j]? = some v → Value.okWide C.prog W .any base t v) →
      DataW.Whole enc C.prog fn.params.toList s.vars apart W args.toList ds gs before →
      conds.all (PathCond.test C.prog ⟨fn.params.toList, ds, s.plain.varTypes C.prog, gs⟩) = true →
      (DataW.weightsEach C.prog (fn.params.toList ++ s.plain.varTypes C.prog) (ds ++ gs)).all (· ≤ reachBytes) = true → X W args → W.ShapedOpen C.prog →
      Calls C.prog f args W fun e W' => ∃ v, e = .returned v ∧ s.post enc C.prog fn apart fresh handsOn again W args v W') :
    ReturnsInHanded a C os f .any (fun w args => (s.pre enc C.prog fn conds apart w args ∧ X w args) ∧ sizedMet enc C.prog fn (OpenSpec.ofChange s) apart w args) (s.post enc C.prog fn apart fresh handsOn again) := by
  refine returnsInHanded_of_calls own started noInit witness ?_
  intro w tape i _ hsh _ hok hpre hholds
  obtain ⟨_, _, _, fn', hfn', _, _, _, _, hval⟩ := hok
  have e : fn' = fn := Option.some.inj (hfn'.symm.trans hfn)
  subst e
  obtain ⟨⟨⟨ds, gs, before, hw, hc⟩, hx⟩, hz⟩ := hpre
  have hw' := DataW.Whole.of_heap (w' := w.forCall tape i) (by rfl) hw
  refine (contract (w.forCall tape i) w.heap.size i.args ds gs before hval hw' hc (hz.weights hw) (hX _ _ _ (by rfl) hx) hsh).mono fun e W' ⟨v, he, hp⟩ => ?_
  subst he
  exact ChangeSpec.post_blind hp
end
end Go.Proofs.YtaffplmfnincfaaGreatDoor
