/- Nodes: rows of them, and byRef. -/
import Derived.Test.YtaffplmfnincfaaGreatDoorVkVn
import Derived.Test.YtaffplmfnincfaaGreatDoorNmQb
namespace Go.Proofs.YtaffplmfnincfaaGreatDoor
set_option linter.unusedVariables false
open Go.RowKit
/-- A node. -/
structure Nd where
  ref : ByteArray
  kind : Int
  source : ByteArray
  input : ByteArray
  how : ByteArray
  strict : Bool
  low : Vl
  high : Vl
  text : ByteArray
def nd0 : Nd := ⟨⟨#[]⟩, 0, ⟨#[]⟩, ⟨#[]⟩, ⟨#[]⟩, false, zer, zer, ⟨#[]⟩⟩
/-- A node's cells. -/
abbrev ndC (x : Nd) : Array Value := #[.string x.ref, .int .i64 x.kind, .string x.source, .string x.input, .string x.how, .bool x.strict, .int .i64 x.low.kind, .int .i64 x.low.n, .int .i64 x.high.kind, .int .i64 x.high.n, .string x.text]
abbrev ndV (x : Nd) : Value := .agg (ndC x)
def encN : Enc Nd where
  arr x := [.string x.ref, .int .i64 x.kind, .string x.source, .string x.input, .string x.how, .bool x.strict, .int .i64 x.low.kind, .int .i64 x.low.n, .int .i64 x.high.kind, .int .i64 x.high.n, .string x.text]
  d := nd0
  k := 11
  len _ := rfl
  one _ u hu := by simp at hu; rcases hu with rfl | rfl | rfl | rfl | rfl | rfl | rfl | rfl | rfl | rfl | rfl <;> rfl
  pos := by decide
theorem nd_at {w : World} {a : Option Addr} {n c : Nat} {l : List Nd} (h : Sls encN w (.slice a n c) l) (t : Nat) (ht : t < l.length) : ∃ b o, a = some ⟨b, o, none⟩ ∧ w.cell? ⟨b, o + t * 11, none⟩ = some (.string (l.getD t nd0).ref) ∧ w.cell? ⟨b, o + t * 11 + 1, none⟩ = some (.int .i64 (l.getD t nd0).kind) ∧ w.cell? ⟨b, o + t * 11 + 2, none⟩ = some (.string (l.getD t nd0).source) ∧ w.cell? ⟨b, o + t * 11 + 3, none⟩ = some (.string (l.getD t nd0).input) ∧ w.cell? ⟨b, o + t * 11 + 4, none⟩ = some (.string (l.getD t nd0).how) ∧ w.cell? ⟨b, o + t * 11 + 5, none⟩ = some (.bool (l.getD t nd0).strict) ∧ w.cell? ⟨b, o + t * 11 + 6, none⟩ = some (.int .i64 (l.getD t nd0).low.kind) ∧ w.cell? ⟨b, o + t * 11 + 7, none⟩ = some (.int .i64 (l.getD t nd0).low.n) ∧ w.cell? ⟨b, o + t * 11 + 8, none⟩ = some (.int .i64 (l.getD t nd0).high.kind) ∧ w.cell? ⟨b, o + t * 11 + 9, none⟩ = some (.int .i64 (l.getD t nd0).high.n) ∧ w.cell? ⟨b, o + t * 11 + 10, none⟩ = some (.string (l.getD t nd0).text) := by
  obtain ⟨b, o, e, h⟩ := h.at t ht
  exact ⟨b, o, e, h 0 _ rfl, h 1 _ rfl, h 2 _ rfl, h 3 _ rfl, h 4 _ rfl, h 5 _ rfl, h 6 _ rfl, h 7 _ rfl, h 8 _ rfl, h 9 _ rfl, h 10 _ rfl⟩
/-- A map from refs to nodes. -/
def NdI (_ : World) (f : Value) (x : Nd) : Prop := f = ndV x
abbrev NTab (w : World) (b : Nat) (l : List (ByteArray × Nd)) : Prop := Tab NdI w b l
theorem NdI.keep : ∀ w w' f φ, CellsKept w w' → NdI w f φ → NdI w' f φ := fun _ _ _ _ _ h => h
theorem map47 : Tryz.prog.underlying 47 = some (.map 9 36) := Tryz.underlying47
theorem zero36 (w : World) : (zeroValue 36).run Tryz.prog w = .ok (ndV nd0) w := by kernel_rfl
/-- What a look-up tells. -/
theorem look_nd {w : World} {b : Nat} {l : List (ByteArray × Nd)} (h : NTab w b l) (op : ByteArray) :
    (asc op l = none ∧ (Instr.lookup 47 (.map (some b)) (.string op) true).run Tryz.prog w = .ok (.tuple #[ndV nd0, .bool false]) w) ∨
    (∃ x, asc op l = some x ∧ (Instr.lookup 47 (.map (some b)) (.string op) true).run Tryz.prog w = .ok (.tuple #[ndV x, .bool true]) w) := by
  obtain ⟨arr, clock, h1, h2⟩ := h
  rcases h2.find op with ⟨g1, g2⟩ | ⟨φ, v, g1, g2, g3⟩
  · refine .inl ⟨g1, ?_⟩
    simp [Instr.lookup, Sem.run_bind, run_underlying map47, MapKept.run_getObj_map h1, MapKept.run_checkKey (k := .string op) str9 (by simp [MapKept.IsKey]), MapKept.run_findKey str9 (g2 0), nd0, zer, Result.andThen]
  · refine .inr ⟨φ, g1, ?_⟩
    obtain ⟨j, hj⟩ := g3 0
    have e : v = ndV φ := g2
    subst e
    simp [Instr.lookup, Sem.run_bind, run_underlying map47, MapKept.run_getObj_map h1, MapKept.run_checkKey (k := .string op) str9 (by simp [MapKept.IsKey]), MapKept.run_findKey str9 hj, Result.andThen]
/-- The nodes by their refs: of two of one ref the first. -/
def addN (acc : List (ByteArray × Nd)) (x : Nd) : List (ByteArray × Nd) := if (asc x.ref acc).isNone then acc ++ [(x.ref, x)] else acc
def byN (l : List Nd) : List (ByteArray × Nd) := l.foldl addN []
theorem byN_take (l : List Nd) (k : Nat) (h : k < l.length) : byN (l.take (k + 1)) = addN (byN (l.take k)) (l.getD k nd0) := by
  unfold byN
  rw [List.take_succ_eq_append_getElem h, List.foldl_append, List.getD_eq_getElem?_getD, List.getElem?_eq_getElem h]
  rfl
theorem wpUpd {β : Type} {I : World → Value → β → Prop} (hI : ∀ w w' f φ, CellsKept w w' → I w f φ → I w' f φ) {T E : TypeId} (hT : Tryz.prog.underlying T = some (.map 9 E)) {w : World} {ops : Array Oper} {rest : List Oper} {o : Oper} {a : Act} {Q : Exit → Act → World → Prop}
    (hg : o.guard = none) (m x v : Operand) (hop : o.op = Op.mapUpdate T m x v) {b : Nat} {l : List (ByteArray × β)} (h : Tab I w b l) {f : Value} {φ : β} (hf : I w f φ) {key : ByteArray} (hk : asc key l = none)
    (hm : a.eval m = .map (some b)) (hx : a.eval x = .string key) (hv : a.eval v = f)
    (hK : ∀ w1, Tab I w1 b (l ++ [(key, φ)]) → Below b w w1 → CellsKept w w1 → wpList Tryz.prog ops Q rest (a.put o.dst undef) w1) : wpList Tryz.prog ops Q (o :: rest) a w := by
  refine wpList_plain hg fun K' hK' => ?_
  obtain ⟨w', hrun, r1, r2, r3⟩ := ins_tab hI hT h hf hk
  unfold Oper.wp
  simp [execOp, hop, hm, hx, hv, hrun, Result.andThen]
  exact hK' _ _ (hK w' r1 r2 r3)
theorem mkm (n : Nat) (hn : n ≤ 1000000) (W : World) : (Instr.makeMap 47 (some (.int .i64 (n : Int)))).run Tryz.prog W = .ok (.map (some W.heap.size)) (W.alloc (.map #[] 0)) := by
  simp [Instr.makeMap, asInt, asIntOf]
set_option maxRecDepth 100000 in
set_option maxHeartbeats 8000000 in
/-- byRef. -/
theorem byRef21 (a : Option Addr) (n c : Nat) (l : List Nd) (w : World) (hv : Sls encN w (.slice a n c) l) (hl : l.length ≤ 1000000) : Calls Tryz.prog 21 #[.slice a n c] w fun e w' => ∃ b, e = .returned (.map (some b)) ∧ Hid (NTab w' b (byN l) ∧ w.heap.size ≤ b ∧ Below w.heap.size w w') := by
  have hn : Hid (n = l.length) := hv.len
  have hmk := mkm n (by have := hn.out; omega)
  have hrow : Hid (∀ W, Below w.heap.size w W → Sls encN W (.slice a n c) l) := fun W h => hv.grow h
  have hn1 : n ≤ 1000000 := by have := hn.out; omega
  clear hv hl
  go_enter Tryz.func21, Tryz.ntmps21
  go_wp2
  clear hmk
  have hb0 : Hid (Below w.heap.size w (w.alloc (.map #[] 0))) := bW0 w _
  have ht0 : Hid (NTab (w.alloc (.map #[] 0)) w.heap.size []) := tabNew w
  generalize hW0 : w.alloc (.map #[] 0) = W0 at *
  clear hW0
  go_loopw [13] (fun i wr => ∃ k : Nat, k ≤ n ∧ i = .int .i64 k ∧ Hid (NTab wr w.heap.size (byN (l.take k))) ∧ Hid (Below w.heap.size w wr)) (fun i _ => n - (intOf i).toNat)
  case atStart => exact ⟨0, Nat.zero_le _, rfl, ht0, hb0⟩
  case round =>
    obtain ⟨k, hk, rfl, ht, hB⟩ := hrel
    by_cases hlt : k < n
    · have hki : (k : Int) < (n : Int) := by omega
      have hkl : k < l.length := by have := hn.out; omega
      obtain ⟨b, o, rfl, c0, c1, c2, c3, c4, c5, c6, c7, c8, c9, c10⟩ := nd_at (hrow.out wr hB.out) k hkl
      have hby : Hid (byN (l.take (k + 1)) = addN (byN (l.take k)) (l.getD k nd0)) := byN_take l k hkl
      generalize l.getD k nd0 = x at *
      rcases look_nd (Tab.keep NdI.keep ht.out (bW0 wr (.cells (ndC x) 36))) x.ref with ⟨g1, g2⟩ | ⟨y, g1, g2⟩
      · have ht2 : NTab ((wr.alloc (.cells (ndC x) 36)).alloc (.cells (ndC nd0) 36)) w.heap.size (byN (l.take k)) := Tab.keep NdI.keep (Tab.keep NdI.keep ht.out (bW0 wr _)) (bW0 _ _)
        have hB2 : Below w.heap.size w ((wr.alloc (.cells (ndC x) 36)).alloc (.cells (ndC nd0) 36)) := (hB.out.alloc hB.out.size _).alloc (by have := hB.out.size; simp; omega) _
        have hst : Hid (byN (l.take (k + 1)) = byN (l.take k) ++ [(x.ref, x)]) := by
          rw [hby.out]
          unfold addN
          rw [g1]
          rfl
        have hne : asc x.ref (byN (l.take k)) = none := g1
        clear g1 hby
        generalize byN (l.take k) = AC at *
        unfold nd0 at g2 ht2 hB2
        go_wp2_with (first
          | (refine wpUpd NdI.keep map47 rfl _ _ _ rfl ht2 (show NdI _ (ndV x) x from rfl) hne rfl rfl rfl ?_; intro w3 ht3 hb3 hk3))
        refine ⟨⟨k + 1, by omega, by go_num, by rw [hst.out]; exact ht3, hB2.trans hb3⟩, ?_⟩
        simp [intOf]; omega
      · have hst : Hid (byN (l.take (k + 1)) = byN (l.take k)) := by
          rw [hby.out]
          unfold addN
          rw [g1]
          rfl
        clear g1 hby
        go_wp2
        refine ⟨⟨k + 1, by omega, by go_num, by rw [hst.out]; exact Tab.keep NdI.keep (Tab.keep NdI.keep ht.out (bW0 wr _)) (bW0 _ _), (hB.out.alloc hB.out.size _).alloc (by have := hB.out.size; simp; omega) _⟩, ?_⟩
        simp [intOf]; omega
    · have hkn : k = n := by omega
      have hki : ¬ (k : Int) < (n : Int) := by omega
      have hfin : Hid (NTab wr w.heap.size (byN l)) := by
        have h := ht.out
        rw [List.take_of_length_le (by have := hn.out; omega)] at h
        exact h
      clear hkn
      go_wp2
      go_ret
      exact ⟨_, rfl, hfin.out, Nat.le_refl _, hB.out⟩
end Go.Proofs.YtaffplmfnincfaaGreatDoor
