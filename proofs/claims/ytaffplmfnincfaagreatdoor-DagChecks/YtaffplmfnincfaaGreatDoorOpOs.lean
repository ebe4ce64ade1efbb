/- Op; Oq; Or; Os. -/
import Derived.Test.YtaffplmfnincfaaGreatDoorOgOi
import Derived.Deep.RegionWith
import Derived.Test.YtaffplmfnincfaaGreatDoorDaDd
/- withItsParts. -/
namespace Go.Proofs.YtaffplmfnincfaaGreatDoor
set_option linter.unusedVariables false
open Go.RowKit
/-- The node without the fields that have no part of its Kind. -/
def wipN (x : Nd) : Nd :=
  if x.kind = 1 then ⟨x.ref, x.kind, x.source, ⟨#[]⟩, ⟨#[]⟩, false, zer, zer, ⟨#[]⟩⟩
  else if x.kind = 2 then ⟨x.ref, x.kind, ⟨#[]⟩, x.input, x.how, x.strict, zer, zer, ⟨#[]⟩⟩
  else if x.kind = 3 then ⟨x.ref, x.kind, ⟨#[]⟩, ⟨#[]⟩, ⟨#[]⟩, false, zer, zer, x.text⟩
  else if x.kind = 4 then ⟨x.ref, x.kind, ⟨#[]⟩, x.input, x.how, false, x.low, if (x.how.toList == [105, 110] || x.how.toList == [111, 117, 116]) = true then x.high else zer, ⟨#[]⟩⟩
  else ⟨x.ref, x.kind, ⟨#[]⟩, ⟨#[]⟩, ⟨#[]⟩, false, zer, zer, ⟨#[]⟩⟩
/-- A node in a block. -/
def NdA (w : World) (q : Nat) (x : Nd) : Prop := w.heap[q]? = some (.cells (ndC x) 36)
theorem NdA.cells {w : World} {q : Nat} {x : Nd} (h : NdA w q x) : w.cell? ⟨q, 0, none⟩ = some (.string x.ref) ∧ w.cell? ⟨q, 1, none⟩ = some (.int .i64 x.kind) ∧ w.cell? ⟨q, 2, none⟩ = some (.string x.source) ∧ w.cell? ⟨q, 3, none⟩ = some (.string x.input) ∧ w.cell? ⟨q, 4, none⟩ = some (.string x.how) ∧ w.cell? ⟨q, 5, none⟩ = some (.bool x.strict) ∧ w.cell? ⟨q, 6, none⟩ = some (.int .i64 x.low.kind) ∧ w.cell? ⟨q, 7, none⟩ = some (.int .i64 x.low.n) ∧ w.cell? ⟨q, 8, none⟩ = some (.int .i64 x.high.kind) ∧ w.cell? ⟨q, 9, none⟩ = some (.int .i64 x.high.n) ∧ w.cell? ⟨q, 10, none⟩ = some (.string x.text) := by
  refine ⟨?_, ?_, ?_, ?_, ?_, ?_, ?_, ?_, ?_, ?_, ?_⟩ <;> (unfold World.cell?; rw [show w.heap[q]? = _ from h]; rfl)
/-- A result that lies in a block. -/
theorem ret_nd {fn : Func} {p : Tmp} {tmps : Array Value} {w' : World} {q : Nat} {x : Nd} {Q : Ending → World → Prop} (hr : fn.results = #[.cell p 36]) (ht : tmps[p]?.getD undef = .pointer (some ⟨q, 0, none⟩)) (hv : NdA w' q x)
    (hq : Q (.returned (ndV x)) w') : bodyPost Tryz.prog fn Q .ret { tmps := tmps, defers := [] } w' := by
  obtain ⟨c0, c1, c2, c3, c4, c5, c6, c7, c8, c9, c10⟩ := hv.cells
  refine bodyPost_ret (v := ndV x) ?_ rfl hq
  simp [results, hr, ht, go_sem, c0, c1, c2, c3, c4, c5, c6, c7, c8, c9, c10]
theorem ndMid (w : World) (a b : Obj) (x : Nd) : NdA (((w.alloc a).alloc (.cells (ndC x) 36)).alloc b) (w.heap.size + 1) x := by
  have h1 : ((w.alloc a).alloc (.cells (ndC x) 36)).heap[w.heap.size + 1]? = some (.cells (ndC x) 36) := by
    have := heap_alloc_new (w.alloc a) (.cells (ndC x) 36)
    rwa [show (w.alloc a).heap.size = w.heap.size + 1 by simp] at this
  exact ((bW0 _ b).block (w.heap.size + 1) (by simp)).trans h1
theorem bel3 (w : World) (a b c : Obj) : Below w.heap.size w (((w.alloc a).alloc b).alloc c) := by
  have h1 := bW0 w a
  have h2 := h1.trans ((bW0 (w.alloc a) b).mono h1.size)
  exact h2.trans ((bW0 _ c).mono h2.size)
set_option maxRecDepth 100000 in
set_option maxHeartbeats 8000000 in
/-- withItsParts. -/
theorem with56 (x : Nd) (w : World) : Calls Tryz.prog 56 #[ndV x] w fun e w' => e = .returned (ndV (wipN x)) ∧ Below w.heap.size w w' := by
  obtain ⟨ref, kind, source, input, how, strict, ⟨lk, ln⟩, ⟨hk, hn⟩, text⟩ := x
  show Calls Tryz.prog 56 #[.agg #[.string ref, .int .i64 kind, .string source, .string input, .string how, .bool strict, .int .i64 lk, .int .i64 ln, .int .i64 hk, .int .i64 hn, .string text]] w _
  unfold wipN
  simp only
  by_cases h1 : kind = 1
  · subst h1
    rw [if_pos rfl]
    go_enter Tryz.func56, Tryz.ntmps56
    go_wp2
    exact ret_nd (x := ⟨ref, 1, source, ⟨#[]⟩, ⟨#[]⟩, false, zer, zer, ⟨#[]⟩⟩) Tryz.results56 rfl (ndMid w _ _ ⟨ref, 1, source, ⟨#[]⟩, ⟨#[]⟩, false, zer, zer, ⟨#[]⟩⟩) ⟨rfl, bel3 w _ _ _⟩
  rw [if_neg h1]
  by_cases h2 : kind = 2
  · subst h2
    rw [if_pos rfl]
    clear h1
    go_enter Tryz.func56, Tryz.ntmps56
    go_wp2
    go_region
    all_goals go_wp2
    all_goals exact ret_nd (x := ⟨ref, 2, ⟨#[]⟩, input, how, strict, zer, zer, ⟨#[]⟩⟩) Tryz.results56 rfl (show NdA _ _ _ from ndMid w _ _ ⟨ref, 2, ⟨#[]⟩, input, how, strict, zer, zer, ⟨#[]⟩⟩) ⟨rfl, (bel3 w _ _ _).drew⟩
  rw [if_neg h2]
  by_cases h3 : kind = 3
  · subst h3
    rw [if_pos rfl]
    clear h1 h2
    go_enter Tryz.func56, Tryz.ntmps56
    go_wp2
    exact ret_nd (x := ⟨ref, 3, ⟨#[]⟩, ⟨#[]⟩, ⟨#[]⟩, false, zer, zer, text⟩) Tryz.results56 rfl (ndMid w _ _ ⟨ref, 3, ⟨#[]⟩, ⟨#[]⟩, ⟨#[]⟩, false, zer, zer, text⟩) ⟨rfl, bel3 w _ _ _⟩
  rw [if_neg h3]
  by_cases h4 : kind = 4
  · subst h4
    rw [if_pos rfl]
    clear h1 h2 h3
    cases h5 : how.toList == [105, 110]
    · cases h6 : how.toList == [111, 117, 116]
      · rw [if_neg (by decide)]
        go_enter Tryz.func56, Tryz.ntmps56
        go_wp2
        go_region
        all_goals go_wp2
        all_goals exact ret_nd (x := ⟨ref, 4, ⟨#[]⟩, input, how, false, ⟨lk, ln⟩, zer, ⟨#[]⟩⟩) Tryz.results56 rfl (show NdA _ _ _ from ndMid w _ _ ⟨ref, 4, ⟨#[]⟩, input, how, false, ⟨lk, ln⟩, zer, ⟨#[]⟩⟩) ⟨rfl, (bel3 w _ _ _).drew⟩
      · rw [if_pos (show (false || true) = true from rfl)]
        go_enter Tryz.func56, Tryz.ntmps56
        go_wp2
        go_region
        all_goals go_wp2
        all_goals exact ret_nd (x := ⟨ref, 4, ⟨#[]⟩, input, how, false, ⟨lk, ln⟩, ⟨hk, hn⟩, ⟨#[]⟩⟩) Tryz.results56 rfl (show NdA _ _ _ from ndMid w _ _ ⟨ref, 4, ⟨#[]⟩, input, how, false, ⟨lk, ln⟩, ⟨hk, hn⟩, ⟨#[]⟩⟩) ⟨rfl, (bel3 w _ _ _).drew⟩
    · rw [if_pos (show (true || how.toList == [111, 117, 116]) = true from rfl)]
      go_enter Tryz.func56, Tryz.ntmps56
      go_wp2
      go_region
      all_goals go_wp2
      all_goals exact ret_nd (x := ⟨ref, 4, ⟨#[]⟩, input, how, false, ⟨lk, ln⟩, ⟨hk, hn⟩, ⟨#[]⟩⟩) Tryz.results56 rfl (show NdA _ _ _ from ndMid w _ _ ⟨ref, 4, ⟨#[]⟩, input, how, false, ⟨lk, ln⟩, ⟨hk, hn⟩, ⟨#[]⟩⟩) ⟨rfl, (bel3 w _ _ _).drew⟩
  rw [if_neg h4]
  go_enter Tryz.func56, Tryz.ntmps56
  go_wp2
  exact ret_nd (x := ⟨ref, kind, ⟨#[]⟩, ⟨#[]⟩, ⟨#[]⟩, false, zer, zer, ⟨#[]⟩⟩) Tryz.results56 rfl (ndMid w _ _ ⟨ref, kind, ⟨#[]⟩, ⟨#[]⟩, ⟨#[]⟩, false, zer, zer, ⟨#[]⟩⟩) ⟨rfl, bel3 w _ _ _⟩
end Go.Proofs.YtaffplmfnincfaaGreatDoor
/- hasItsParts. -/
namespace Go.Proofs.YtaffplmfnincfaaGreatDoor
set_option linter.unusedVariables false
open Go.RowKit
open Classical in
/-- A text has a tree. -/
noncomputable def treeB (s : ByteArray) : Bool := decide (s.size ≤ 1024 ∧ ∃ X, Whole (par := parC) s X)
/-- The fields that have a part of the Kind may be so. -/
noncomputable def partsB (x : Nd) : Bool :=
  if x.kind = 1 then (!(x.source.toList == []) && decide ((x.source.size : Int) ≤ 64))
  else if x.kind = 2 then howB x.how
  else if x.kind = 3 then treeB x.text
  else if x.kind = 4 then hbB x
  else false
theorem treeB_ok {s : ByteArray} {X : Ex} (hs : s.size ≤ 1024) (h : Whole (par := parC) s X) : treeB s = true := by
  unfold treeB
  simp only [decide_eq_true_eq]
  exact ⟨hs, X, h⟩
theorem treeB_no {s : ByteArray} {er : Int} {j : Nat} (h : ErrT s er j) : treeB s = false := by
  unfold treeB
  simp only [decide_eq_false_iff_not]
  rintro ⟨hs, X, hX⟩
  exact h.none hs hX
set_option maxRecDepth 100000 in
set_option maxHeartbeats 8000000 in
/-- hasItsParts. -/
theorem parts55 (x : Nd) (w : World) (hG : G w) (hS : SignsAt w) (hs : x.text.size ≤ 9223372036854775807) (hs2 : x.source.size ≤ 1000000000) : Calls Tryz.prog 55 #[ndV x] w fun e w' => e = .returned (.bool (partsB x)) ∧ Below w.heap.size w w' := by
  have hbd := fun W => bounds76 x W
  obtain ⟨ref, kind, source, input, how, strict, ⟨lk, ln⟩, ⟨hk, hn⟩, text⟩ := x
  have hb0 := bW0 w (.cells #[.string ref, .int .i64 kind, .string source, .string input, .string how, .bool strict, .int .i64 lk, .int .i64 ln, .int .i64 hk, .int .i64 hn, .string text] 36)
  show Calls Tryz.prog 55 #[.agg #[.string ref, .int .i64 kind, .string source, .string input, .string how, .bool strict, .int .i64 lk, .int .i64 ln, .int .i64 hk, .int .i64 hn, .string text]] w _
  by_cases h1 : kind = 1
  · subst h1
    unfold partsB
    rw [if_pos rfl]
    simp only
    clear hbd hG hS hs
    cases he : source.toList == []
    · have he2 : source.toList.isEmpty = false := by cases e : source.toList with
        | nil => rw [e] at he; simp at he
        | cons a b => rfl
      cases hl : decide ((source.size : Int) ≤ 64)
      · have hl2 : ¬ (source.size : Int) ≤ 64 := by simpa using hl
        go_enter Tryz.func55, Tryz.ntmps55
        go_wp2
        go_ret
        exact ⟨rfl, hb0⟩
      · have hl2 : (source.size : Int) ≤ 64 := by simpa using hl
        go_enter Tryz.func55, Tryz.ntmps55
        go_wp2
        go_ret
        exact ⟨rfl, hb0⟩
    · have he2 : source.toList.isEmpty = true := by cases e : source.toList with
        | nil => rfl
        | cons a b => rw [e] at he; simp at he
      go_enter Tryz.func55, Tryz.ntmps55
      go_wp2
      go_ret
      exact ⟨rfl, hb0⟩
  by_cases h2 : kind = 2
  · subst h2
    have hr := fun W => reduces75 how W
    have hP : partsB ⟨ref, 2, source, input, how, strict, ⟨lk, ln⟩, ⟨hk, hn⟩, text⟩ = howB how := by unfold partsB; rfl
    rw [hP]
    generalize howB how = B at *
    clear hbd hG hS hs hs2 h1 hP
    go_enter Tryz.func55, Tryz.ntmps55
    go_wp2_with (first | (go_at_call 75; refine (hr _).mono ?_; rintro e w1 ⟨rfl, hb1⟩; have hB1 := hb0.trans (hb1.mono hb0.size)))
    go_ret
    exact ⟨rfl, hB1⟩
  by_cases h3 : kind = 3
  · subst h3
    have hP : partsB ⟨ref, 3, source, input, how, strict, ⟨lk, ln⟩, ⟨hk, hn⟩, text⟩ = treeB text := by unfold partsB; rfl
    rw [hP]
    have hp := parse8 text _ (hG.grow hb0) (hS.grow hb0) hs
    have hyes : Hid (∀ X, text.size ≤ 1024 → Whole (par := parC) text X → treeB text = true) := fun X h1 h2 => treeB_ok h1 h2
    have hno : Hid (∀ er j, ErrT text er j → treeB text = false) := fun er j h => treeB_no h
    generalize treeB text = B at *
    clear hbd hG hS hs hs2 h1 h2 hP
    go_enter Tryz.func55, Tryz.ntmps55
    go_wp2_with (first
      | (go_at_call 28; refine hp.mono ?_; clear hp; rintro e w1 ⟨k, n, x, y, a, m, c, er, at', rfl, h1⟩; obtain ⟨hb1, -, h1⟩ := h1.out; have hB1 := hb0.trans (hb1.mono hb0.size); clear hb1; rcases h1 with ⟨her, hE⟩ | ⟨rfl, ht, X, hX, hV⟩))
    · have her2 : (er == 0) = false := by simpa using her
      go_ret
      exact ⟨by rw [hno.out _ _ hE]; exact lret_bool her2, hB1.trans ((bW0 _ _).mono hB1.size)⟩
    · go_ret
      exact ⟨by rw [hyes.out _ ht hX]; rfl, hB1.trans ((bW0 _ _).mono hB1.size)⟩
  by_cases h4 : kind = 4
  · subst h4
    have hP : partsB ⟨ref, 4, source, input, how, strict, ⟨lk, ln⟩, ⟨hk, hn⟩, text⟩ = hbB ⟨ref, 4, source, input, how, strict, ⟨lk, ln⟩, ⟨hk, hn⟩, text⟩ := by unfold partsB; rfl
    rw [hP]
    generalize hbB ⟨ref, 4, source, input, how, strict, ⟨lk, ln⟩, ⟨hk, hn⟩, text⟩ = B at *
    clear hG hS hs hs2 h1 h2 h3 hP
    simp only [ndV, ndC] at hbd
    go_enter Tryz.func55, Tryz.ntmps55
    go_wp2_with (first | (go_at_call 76; refine (hbd _).mono ?_; rintro e w1 ⟨rfl, hb1⟩; have hB1 := hb0.trans (hb1.mono hb0.size)))
    go_ret
    exact ⟨rfl, hB1⟩
  · have hP : partsB ⟨ref, kind, source, input, how, strict, ⟨lk, ln⟩, ⟨hk, hn⟩, text⟩ = false := by unfold partsB; rw [if_neg h1, if_neg h2, if_neg h3, if_neg h4]
    rw [hP]
    clear hbd hG hS hs hs2 hP
    go_enter Tryz.func55, Tryz.ntmps55
    go_wp2
    go_ret
    exact ⟨rfl, hb0⟩
end Go.Proofs.YtaffplmfnincfaaGreatDoor
/- Nodes are compared. -/
namespace Go.Proofs.YtaffplmfnincfaaGreatDoor
set_option linter.unusedVariables false
open Go.RowKit
theorem eqF_step {d : Nat} {xs ys : Array Value} {f : Field} {fs : List Field} {w : World} {a b : Value} {r : Bool} {s : Bool} (hn : f.name ≠ "_") (ha : (part f.type xs f.offset).run Tryz.prog w = .ok a w) (hb : (part f.type ys f.offset).run Tryz.prog w = .ok b w) (hr : (Op.equalIn d f.type a b).run Tryz.prog w = .ok r w) (hs : (Op.eqFields d xs ys fs).run Tryz.prog w = .ok s w) : (Op.eqFields d xs ys (f :: fs)).run Tryz.prog w = .ok (r && s) w := by
  rw [Op.eqFields, if_pos hn]
  simp only [Sem.run_bind, ha, hb, hr, Result.andThen_ok]
  cases r
  · simp
  · simp [hs]
theorem eqF_nil {d : Nat} {xs ys : Array Value} {w : World} : (Op.eqFields d xs ys []).run Tryz.prog w = .ok true w := by simp [Op.eqFields]
theorem eqV34 (a b c d : Int) (n : Nat) (w : World) : (Op.equalIn (n + 1 + 1) 34 (.agg #[.int .i64 a, .int .i64 b]) (.agg #[.int .i64 c, .int .i64 d])).run Tryz.prog w = .ok ((a == c) && ((b == d) && true)) w := by
  rw [run_equalIn_agg w (n + 1) 34 _ _ (by kernel_rfl) (by kernel_rfl)]
  have hf : (Tryz.prog.fieldsOf 34).toList = [⟨"Kind", 3, 0, false, "", "", 0⟩, ⟨"N", 2, 1, false, "", "", 8⟩] := by kernel_rfl
  rw [hf]
  exact eqF_step (by decide) (by kernel_rfl) (by kernel_rfl) (run_equalIn_int w n 3 .i64 .i64 a c Tryz.underlying3) (eqF_step (by decide) (by kernel_rfl) (by kernel_rfl) (run_equalIn_int w n 2 .i64 .i64 b d Tryz.underlying2) eqF_nil)
/-- Two nodes are the same, field by field. -/
def eqNd (x y : Nd) : Bool := (x.ref.toList == y.ref.toList) && ((x.kind == y.kind) && ((x.source.toList == y.source.toList) && ((x.input.toList == y.input.toList) && ((x.how.toList == y.how.toList) && ((x.strict == y.strict) && (((x.low.kind == y.low.kind) && ((x.low.n == y.low.n) && true)) && (((x.high.kind == y.high.kind) && ((x.high.n == y.high.n) && true)) && ((x.text.toList == y.text.toList) && true))))))))
theorem neq36 (x y : Nd) (w : World) : (binOp .neq 36 (ndV x) (ndV y)).run Tryz.prog w = .ok (.bool (!eqNd x y)) w := by
  rw [run_neq_struct, run_equalIn_agg w 9999 36 _ _ (by kernel_rfl) (by kernel_rfl)]
  have hf : (Tryz.prog.fieldsOf 36).toList = [⟨"Ref", 9, 0, false, "", "", 0⟩, ⟨"Kind", 3, 1, false, "", "", 16⟩, ⟨"Source", 9, 2, false, "", "", 24⟩, ⟨"Input", 9, 3, false, "", "", 40⟩, ⟨"How", 9, 4, false, "", "", 56⟩, ⟨"Strict", 4, 5, false, "", "", 72⟩, ⟨"Low", 34, 6, false, "", "", 80⟩, ⟨"High", 34, 8, false, "", "", 96⟩, ⟨"Text", 9, 10, false, "", "", 112⟩] := by kernel_rfl
  rw [hf]
  have h : (Op.eqFields 9999 (ndC x) (ndC y) [⟨"Ref", 9, 0, false, "", "", 0⟩, ⟨"Kind", 3, 1, false, "", "", 16⟩, ⟨"Source", 9, 2, false, "", "", 24⟩, ⟨"Input", 9, 3, false, "", "", 40⟩, ⟨"How", 9, 4, false, "", "", 56⟩, ⟨"Strict", 4, 5, false, "", "", 72⟩, ⟨"Low", 34, 6, false, "", "", 80⟩, ⟨"High", 34, 8, false, "", "", 96⟩, ⟨"Text", 9, 10, false, "", "", 112⟩]).run Tryz.prog w = .ok (eqNd x y) w :=
    eqF_step (by decide) (by kernel_rfl) (by kernel_rfl) (run_equalIn_string w 9998 9 x.ref y.ref Tryz.underlying9) <|
    eqF_step (by decide) (by kernel_rfl) (by kernel_rfl) (run_equalIn_int w 9998 3 .i64 .i64 x.kind y.kind Tryz.underlying3) <|
    eqF_step (by decide) (by kernel_rfl) (by kernel_rfl) (run_equalIn_string w 9998 9 x.source y.source Tryz.underlying9) <|
    eqF_step (by decide) (by kernel_rfl) (by kernel_rfl) (run_equalIn_string w 9998 9 x.input y.input Tryz.underlying9) <|
    eqF_step (by decide) (by kernel_rfl) (by kernel_rfl) (run_equalIn_string w 9998 9 x.how y.how Tryz.underlying9) <|
    eqF_step (by decide) (by kernel_rfl) (by kernel_rfl) (run_equalIn_bool' w 9998 4 x.strict y.strict Tryz.underlying4) <|
    eqF_step (by decide) (by kernel_rfl) (by kernel_rfl) (eqV34 x.low.kind x.low.n y.low.kind y.low.n 9997 w) <|
    eqF_step (by decide) (by kernel_rfl) (by kernel_rfl) (eqV34 x.high.kind x.high.n y.high.kind y.high.n 9997 w) <|
    eqF_step (by decide) (by kernel_rfl) (by kernel_rfl) (run_equalIn_string w 9998 9 x.text y.text Tryz.underlying9) eqF_nil
  rw [h]
  rfl
end Go.Proofs.YtaffplmfnincfaaGreatDoor
/- mayNotBe. -/
namespace Go.Proofs.YtaffplmfnincfaaGreatDoor
set_option linter.unusedVariables false
open Go.RowKit
/-- A node may be. -/
noncomputable def mayB (x : Nd) : Bool := refB x.ref && (partsB x && eqNd x (wipN x))
/-- No text of a node is too long for what is asked. -/
def NdS (x : Nd) : Prop := x.ref.size ≤ 1000000 ∧ x.source.size ≤ 1000000 ∧ x.text.size ≤ 1000000
set_option maxRecDepth 100000 in
set_option maxHeartbeats 8000000 in
/-- mayNotBe. -/
theorem may33 (x : Nd) (w : World) (hG : G w) (hS : SignsAt w) (hx : NdS x) : Calls Tryz.prog 33 #[ndV x] w fun e w' => e = .returned (.bool (!mayB x)) ∧ Below w.heap.size w w' := by
  have hb0 : Hid (Below w.heap.size w (w.alloc (.cells (ndC x) 36))) := bW0 w _
  have h54 : ∀ W, Calls Tryz.prog 54 #[.string x.ref] W fun e w' => e = .returned (.bool (refB x.ref)) ∧ Below W.heap.size W w' := fun W => (ref_any x.ref W (by have := hx.1; omega)).mono fun e w' ⟨h, hw⟩ => ⟨h, hw ▸ Below.refl _ _⟩
  have h55 : Hid (∀ W, Below w.heap.size w W → Calls Tryz.prog 55 #[ndV x] W fun e w' => e = .returned (.bool (partsB x)) ∧ Below W.heap.size W w') := fun W h => parts55 x W (hG.grow h) (hS.grow h) (by have := hx.2.2; omega) (by have := hx.2.1; omega)
  have h56 : ∀ W, Calls Tryz.prog 56 #[ndV x] W fun e w' => e = .returned (ndV (wipN x)) ∧ Below W.heap.size W w' := fun W => with56 x W
  have hne := fun W => neq36 x (wipN x) W
  have h55p : ∀ p : Bel (w.alloc (.cells (ndC x) 36)), Calls Tryz.prog 55 #[ndV x] p.W fun e w' => e = .returned (.bool (partsB x)) ∧ Below p.W.heap.size p.W w' := fun p => h55.out p.W (hb0.out.trans (p.h.mono hb0.out.size))
  have hcs := fun p : Bel (w.alloc (.cells (ndC x) 36)) => nd_kept x p.h
  have c0 := fun p => (hcs p).1
  have c1 := fun p => (hcs p).2.1
  have c2 := fun p => (hcs p).2.2.1
  have c3 := fun p => (hcs p).2.2.2.1
  have c4 := fun p => (hcs p).2.2.2.2.1
  have c5 := fun p => (hcs p).2.2.2.2.2.1
  have c6 := fun p => (hcs p).2.2.2.2.2.2.1
  have c7 := fun p => (hcs p).2.2.2.2.2.2.2.1
  have c8 := fun p => (hcs p).2.2.2.2.2.2.2.2.1
  have c9 := fun p => (hcs p).2.2.2.2.2.2.2.2.2.1
  have c10 := fun p => (hcs p).2.2.2.2.2.2.2.2.2.2
  clear hcs hG hS h55 hx
  obtain ⟨R, hR⟩ : ∃ R, Hid (R = !mayB x) := ⟨_, rfl⟩
  rw [← hR.out]
  unfold mayB at hR
  cases hr : refB x.ref with
  | false =>
    rw [hr] at h54 hR
    replace hR : Hid (R = true) := hR.out
    go_enter Tryz.func33, Tryz.ntmps33
    go_wp2
    refine wp_region_bel (by kernel_rfl) (by kernel_rfl) ?_
    repeat (go_big_quiet_step (first | (with_reducible exact Calls.bel (h54 _)) | (with_reducible exact Calls.bel (h55p _)) | (with_reducible exact Calls.bel (h56 _))))
    refine wpQuiet_nil ?_
    rintro W ⟨p, rfl⟩
    go_wp2
    go_ret
    exact ⟨by rw [hR.out]; rfl, hb0.out.trans (p.h.mono hb0.out.size)⟩
  | true =>
    rw [hr] at h54 hR
    cases hp : partsB x with
    | false =>
      rw [hp] at h55p hR
      replace hR : Hid (R = true) := hR.out
      go_enter Tryz.func33, Tryz.ntmps33
      go_wp2
      refine wp_region_bel (by kernel_rfl) (by kernel_rfl) ?_
      repeat (go_big_quiet_step (first | (with_reducible exact Calls.bel (h54 _)) | (with_reducible exact Calls.bel (h55p _)) | (with_reducible exact Calls.bel (h56 _))))
      refine wpQuiet_nil ?_
      rintro W ⟨p, rfl⟩
      go_wp2
      go_ret
      exact ⟨by rw [hR.out]; rfl, hb0.out.trans (p.h.mono hb0.out.size)⟩
    | true =>
      rw [hp] at h55p hR
      replace hR : Hid (R = !eqNd x (wipN x)) := hR.out.trans (by simp)
      generalize eqNd x (wipN x) = E at *
      generalize wipN x = y at *
      go_enter Tryz.func33, Tryz.ntmps33
      go_wp2
      refine wp_region_bel (by kernel_rfl) (by kernel_rfl) ?_
      repeat (go_big_quiet_step (first | (with_reducible exact Calls.bel (h54 _)) | (with_reducible exact Calls.bel (h55p _)) | (with_reducible exact Calls.bel (h56 _))))
      refine wpQuiet_nil ?_
      rintro W ⟨p, rfl⟩
      go_wp2
      go_ret
      exact ⟨by rw [hR.out]; rfl, hb0.out.trans (p.h.mono hb0.out.size)⟩
end Go.Proofs.YtaffplmfnincfaaGreatDoor
