/- Da; Db; Dc; Dd. -/
import Derived.Test.YtaffplmfnincfaaGreatDoorVkVn
import Derived.Test.YtaffplmfnincfaaGreatDoorNmQb
import Derived.Test.YtaffplmfnincfaaGreatDoorQf
import Derived.Test.YtaffplmfnincfaaGreatDoorQr
/- Nodes: rows of them, and byRef. -/
namespace Go.Proofs.YtaffplmfnincfaaGreatDoor
set_option linter.unusedVariables false
open Go.RowKit
/-- A node. -/
structure Nd where
  ref : ByteArray
  kind : Int
  source : ByteArray
  input : ByteArray
  how : ByteArray
  strict : Bool
  low : Vl
  high : Vl
  text : ByteArray
def nd0 : Nd := ⟨⟨#[]⟩, 0, ⟨#[]⟩, ⟨#[]⟩, ⟨#[]⟩, false, zer, zer, ⟨#[]⟩⟩
/-- A node's cells. -/
abbrev ndC (x : Nd) : Array Value := #[.string x.ref, .int .i64 x.kind, .string x.source, .string x.input, .string x.how, .bool x.strict, .int .i64 x.low.kind, .int .i64 x.low.n, .int .i64 x.high.kind, .int .i64 x.high.n, .string x.text]
abbrev ndV (x : Nd) : Value := .agg (ndC x)
def encN : Enc Nd where
  arr x := [.string x.ref, .int .i64 x.kind, .string x.source, .string x.input, .string x.how, .bool x.strict, .int .i64 x.low.kind, .int .i64 x.low.n, .int .i64 x.high.kind, .int .i64 x.high.n, .string x.text]
  d := nd0
  k := 11
  len _ := rfl
  one _ u hu := by simp at hu; rcases hu with rfl | rfl | rfl | rfl | rfl | rfl | rfl | rfl | rfl | rfl | rfl <;> rfl
  pos := by decide
theorem nd_at {w : World} {a : Option Addr} {n c : Nat} {l : List Nd} (h : Sls encN w (.slice a n c) l) (t : Nat) (ht : t < l.length) : ∃ b o, a = some ⟨b, o, none⟩ ∧ w.cell? ⟨b, o + t * 11, none⟩ = some (.string (l.getD t nd0).ref) ∧ w.cell? ⟨b, o + t * 11 + 1, none⟩ = some (.int .i64 (l.getD t nd0).kind) ∧ w.cell? ⟨b, o + t * 11 + 2, none⟩ = some (.string (l.getD t nd0).source) ∧ w.cell? ⟨b, o + t * 11 + 3, none⟩ = some (.string (l.getD t nd0).input) ∧ w.cell? ⟨b, o + t * 11 + 4, none⟩ = some (.string (l.getD t nd0).how) ∧ w.cell? ⟨b, o + t * 11 + 5, none⟩ = some (.bool (l.getD t nd0).strict) ∧ w.cell? ⟨b, o + t * 11 + 6, none⟩ = some (.int .i64 (l.getD t nd0).low.kind) ∧ w.cell? ⟨b, o + t * 11 + 7, none⟩ = some (.int .i64 (l.getD t nd0).low.n) ∧ w.cell? ⟨b, o + t * 11 + 8, none⟩ = some (.int .i64 (l.getD t nd0).high.kind) ∧ w.cell? ⟨b, o + t * 11 + 9, none⟩ = some (.int .i64 (l.getD t nd0).high.n) ∧ w.cell? ⟨b, o + t * 11 + 10, none⟩ = some (.string (l.getD t nd0).text) := by
  obtain ⟨b, o, e, h⟩ := h.at t ht
  exact ⟨b, o, e, h 0 _ rfl, h 1 _ rfl, h 2 _ rfl, h 3 _ rfl, h 4 _ rfl, h 5 _ rfl, h 6 _ rfl, h 7 _ rfl, h 8 _ rfl, h 9 _ rfl, h 10 _ rfl⟩
/-- A map from refs to nodes. -/
def NdI (_ : World) (f : Value) (x : Nd) : Prop := f = ndV x
abbrev NTab (w : World) (b : Nat) (l : List (ByteArray × Nd)) : Prop := Tab NdI w b l
theorem NdI.keep : ∀ w w' f φ, CellsKept w w' → NdI w f φ → NdI w' f φ := fun _ _ _ _ _ h => h
theorem map47 : Tryz.prog.underlying 47 = some (.map 9 36) := Tryz.underlying47
/-- What a look-up tells. -/
theorem look_nd {w : World} {b : Nat} {l : List (ByteArray × Nd)} (h : NTab w b l) (op : ByteArray) :
    (asc op l = none ∧ (Instr.lookup 47 (.map (some b)) (.string op) true).run Tryz.prog w = .ok (.tuple #[ndV nd0, .bool false]) w) ∨
    (∃ x, asc op l = some x ∧ (Instr.lookup 47 (.map (some b)) (.string op) true).run Tryz.prog w = .ok (.tuple #[ndV x, .bool true]) w) := by
  obtain ⟨arr, clock, h1, h2⟩ := h
  rcases h2.find op with ⟨g1, g2⟩ | ⟨φ, v, g1, g2, g3⟩
  · refine .inl ⟨g1, ?_⟩
    simp [Instr.lookup, Sem.run_bind, run_underlying map47, MapKept.run_getObj_map h1, MapKept.run_checkKey (k := .string op) str9 (by simp [MapKept.IsKey]), MapKept.run_findKey str9 (g2 0), nd0, zer, Result.andThen]
  · refine .inr ⟨φ, g1, ?_⟩
    obtain ⟨j, hj⟩ := g3 0
    have e : v = ndV φ := g2
    subst e
    simp [Instr.lookup, Sem.run_bind, run_underlying map47, MapKept.run_getObj_map h1, MapKept.run_checkKey (k := .string op) str9 (by simp [MapKept.IsKey]), MapKept.run_findKey str9 hj, Result.andThen]
/-- The nodes by their refs: of two of one ref the first. -/
def addN (acc : List (ByteArray × Nd)) (x : Nd) : List (ByteArray × Nd) := if (asc x.ref acc).isNone then acc ++ [(x.ref, x)] else acc
def byN (l : List Nd) : List (ByteArray × Nd) := l.foldl addN []
theorem byN_take (l : List Nd) (k : Nat) (h : k < l.length) : byN (l.take (k + 1)) = addN (byN (l.take k)) (l.getD k nd0) := by
  unfold byN
  rw [List.take_succ_eq_append_getElem h, List.foldl_append, List.getD_eq_getElem?_getD, List.getElem?_eq_getElem h]
  rfl
theorem wpUpd {β : Type} {I : World → Value → β → Prop} (hI : ∀ w w' f φ, CellsKept w w' → I w f φ → I w' f φ) {T E : TypeId} (hT : Tryz.prog.underlying T = some (.map 9 E)) {w : World} {ops : Array Oper} {rest : List Oper} {o : Oper} {a : Act} {Q : Exit → Act → World → Prop}
    (hg : o.guard = none) (m x v : Operand) (hop : o.op = Op.mapUpdate T m x v) {b : Nat} {l : List (ByteArray × β)} (h : Tab I w b l) {f : Value} {φ : β} (hf : I w f φ) {key : ByteArray} (hk : asc key l = none)
    (hm : a.eval m = .map (some b)) (hx : a.eval x = .string key) (hv : a.eval v = f)
    (hK : ∀ w1, Tab I w1 b (l ++ [(key, φ)]) → Below b w w1 → CellsKept w w1 → wpList Tryz.prog ops Q rest (a.put o.dst undef) w1) : wpList Tryz.prog ops Q (o :: rest) a w := by
  refine wpList_plain hg fun K' hK' => ?_
  obtain ⟨w', hrun, r1, r2, r3⟩ := ins_tab hI hT h hf hk
  unfold Oper.wp
  simp [execOp, hop, hm, hx, hv, hrun, Result.andThen]
  exact hK' _ _ (hK w' r1 r2 r3)
theorem mkm (n : Nat) (hn : n ≤ 1000000) (W : World) : (Instr.makeMap 47 (some (.int .i64 (n : Int)))).run Tryz.prog W = .ok (.map (some W.heap.size)) (W.alloc (.map #[] 0)) := by
  simp [Instr.makeMap, asInt, asIntOf]
set_option maxRecDepth 100000 in
set_option maxHeartbeats 8000000 in
/-- byRef. -/
theorem byRef21 (a : Option Addr) (n c : Nat) (l : List Nd) (w : World) (hv : Sls encN w (.slice a n c) l) (hl : l.length ≤ 1000000) : Calls Tryz.prog 21 #[.slice a n c] w fun e w' => ∃ b, e = .returned (.map (some b)) ∧ Hid (NTab w' b (byN l) ∧ w.heap.size ≤ b ∧ Below w.heap.size w w') := by
  have hn : Hid (n = l.length) := hv.len
  have hmk := mkm n (by have := hn.out; omega)
  have hrow : Hid (∀ W, Below w.heap.size w W → Sls encN W (.slice a n c) l) := fun W h => hv.grow h
  have hn1 : n ≤ 1000000 := by have := hn.out; omega
  clear hv hl
  go_enter Tryz.func21, Tryz.ntmps21
  go_wp2
  clear hmk
  have hb0 : Hid (Below w.heap.size w (w.alloc (.map #[] 0))) := bW0 w _
  have ht0 : Hid (NTab (w.alloc (.map #[] 0)) w.heap.size []) := tabNew w
  generalize hW0 : w.alloc (.map #[] 0) = W0 at *
  clear hW0
  go_loopw [13] (fun i wr => ∃ k : Nat, k ≤ n ∧ i = .int .i64 k ∧ Hid (NTab wr w.heap.size (byN (l.take k))) ∧ Hid (Below w.heap.size w wr)) (fun i _ => n - (intOf i).toNat)
  case atStart => exact ⟨0, Nat.zero_le _, rfl, ht0, hb0⟩
  case round =>
    obtain ⟨k, hk, rfl, ht, hB⟩ := hrel
    by_cases hlt : k < n
    · have hki : (k : Int) < (n : Int) := by omega
      have hkl : k < l.length := by have := hn.out; omega
      obtain ⟨b, o, rfl, c0, c1, c2, c3, c4, c5, c6, c7, c8, c9, c10⟩ := nd_at (hrow.out wr hB.out) k hkl
      have hby : Hid (byN (l.take (k + 1)) = addN (byN (l.take k)) (l.getD k nd0)) := byN_take l k hkl
      generalize l.getD k nd0 = x at *
      rcases look_nd (Tab.keep NdI.keep ht.out (bW0 wr (.cells (ndC x) 36))) x.ref with ⟨g1, g2⟩ | ⟨y, g1, g2⟩
      · have ht2 : NTab ((wr.alloc (.cells (ndC x) 36)).alloc (.cells (ndC nd0) 36)) w.heap.size (byN (l.take k)) := Tab.keep NdI.keep (Tab.keep NdI.keep ht.out (bW0 wr _)) (bW0 _ _)
        have hB2 : Below w.heap.size w ((wr.alloc (.cells (ndC x) 36)).alloc (.cells (ndC nd0) 36)) := (hB.out.alloc hB.out.size _).alloc (by have := hB.out.size; simp; omega) _
        have hst : Hid (byN (l.take (k + 1)) = byN (l.take k) ++ [(x.ref, x)]) := by
          rw [hby.out]
          unfold addN
          rw [g1]
          rfl
        have hne : asc x.ref (byN (l.take k)) = none := g1
        clear g1 hby
        generalize byN (l.take k) = AC at *
        unfold nd0 at g2 ht2 hB2
        go_wp2_with (first
          | (refine wpUpd NdI.keep map47 rfl _ _ _ rfl ht2 (show NdI _ (ndV x) x from rfl) hne rfl rfl rfl ?_; intro w3 ht3 hb3 hk3))
        refine ⟨⟨k + 1, by omega, by go_num, by rw [hst.out]; exact ht3, hB2.trans hb3⟩, ?_⟩
        simp [intOf]; omega
      · have hst : Hid (byN (l.take (k + 1)) = byN (l.take k)) := by
          rw [hby.out]
          unfold addN
          rw [g1]
          rfl
        clear g1 hby
        go_wp2
        refine ⟨⟨k + 1, by omega, by go_num, by rw [hst.out]; exact Tab.keep NdI.keep (Tab.keep NdI.keep ht.out (bW0 wr _)) (bW0 _ _), (hB.out.alloc hB.out.size _).alloc (by have := hB.out.size; simp; omega) _⟩, ?_⟩
        simp [intOf]; omega
    · have hkn : k = n := by omega
      have hki : ¬ (k : Int) < (n : Int) := by omega
      have hfin : Hid (NTab wr w.heap.size (byN l)) := by
        have h := ht.out
        rw [List.take_of_length_le (by have := hn.out; omega)] at h
        exact h
      clear hkn
      go_wp2
      go_ret
      exact ⟨_, rfl, hfin.out, Nat.le_refl _, hB.out⟩
end Go.Proofs.YtaffplmfnincfaaGreatDoor
/- areThere. -/
namespace Go.Proofs.YtaffplmfnincfaaGreatDoor
set_option linter.unusedVariables false
open Go.RowKit
theorem NTab.grow {w w' : World} {b : Nat} {l : List (ByteArray × Nd)} (h : NTab w b l) (hb : Below w.heap.size w w') : NTab w' b l := Tab.keep NdI.keep h hb
def thB (M : List (ByteArray × Nd)) (R : List ByteArray) : Bool := R.all fun r => (asc r M).isSome
theorem thB_no {M : List (ByteArray × Nd)} {R : List ByteArray} {k : Nat} (hk : k < R.length) (h : asc (R.getD k ⟨#[]⟩) M = none) : thB M R = false := by
  unfold thB
  rw [List.all_eq_false]
  refine ⟨R.getD k ⟨#[]⟩, ?_, by rw [h]; simp⟩
  rw [List.getD_eq_getElem?_getD, List.getElem?_eq_getElem hk]
  exact List.getElem_mem hk
theorem thB_yes {M : List (ByteArray × Nd)} {R : List ByteArray} (h : ∀ j, j < R.length → (asc (R.getD j ⟨#[]⟩) M).isSome = true) : thB M R = true := by
  unfold thB
  rw [List.all_eq_true]
  intro x hx
  obtain ⟨i, hi, rfl⟩ := List.getElem_of_mem hx
  have := h i hi
  rw [List.getD_eq_getElem?_getD, List.getElem?_eq_getElem hi] at this
  exact this
set_option maxRecDepth 100000 in
set_option maxHeartbeats 8000000 in
/-- areThere. -/
theorem there34 (b : Nat) (M : List (ByteArray × Nd)) (a : Option Addr) (n c : Nat) (R : List ByteArray) (w : World) (hM : NTab w b M) (hv : Txs w (.slice a n c) R) (hl : R.length ≤ 1000000) : Calls Tryz.prog 34 #[.map (some b), .slice a n c] w fun e w' => e = .returned (.bool (thB M R)) ∧ Below w.heap.size w w' := by
  have hn : Hid (n = R.length) := hv.len
  have hrow : Hid (∀ W, Below w.heap.size w W → Txs W (.slice a n c) R) := fun W h => hv.grow h
  have hMg : Hid (∀ W, Below w.heap.size w W → NTab W b M) := fun W h => hM.grow h
  have hn1 : n ≤ 1000000 := by have := hn.out; omega
  obtain ⟨T, hT⟩ : ∃ T, Hid (T = thB M R) := ⟨_, rfl⟩
  rw [← hT.out]
  clear hv hl hM
  go_enter Tryz.func34, Tryz.ntmps34
  go_wp2
  go_loopw [11] (fun i wr => ∃ k : Nat, k ≤ n ∧ i = .int .i64 k ∧ Hid (∀ j, j < k → (asc (R.getD j ⟨#[]⟩) M).isSome = true) ∧ Hid (Below w.heap.size w wr)) (fun i _ => n - (intOf i).toNat)
  case atStart => exact ⟨0, Nat.zero_le _, rfl, (fun j hj => absurd hj (Nat.not_lt_zero _)), Below.refl _ _⟩
  case round =>
    obtain ⟨k, hk, rfl, hal, hB⟩ := hrel
    by_cases hlt : k < n
    · have hki : (k : Int) < (n : Int) := by omega
      have hkl : k < R.length := by have := hn.out; omega
      obtain ⟨q, o, rfl, x0⟩ := tx_at (hrow.out wr hB.out) k hkl
      rcases look_nd (hMg.out wr hB.out) (R.getD k ⟨#[]⟩) with ⟨g1, g2⟩ | ⟨y, g1, g2⟩
      · have hTf : Hid (T = false) := hT.out.trans (thB_no hkl g1)
        clear g1
        unfold nd0 at g2
        generalize R.getD k ⟨#[]⟩ = r at *
        have hB2 := hB.out.alloc hB.out.size (.cells (ndC nd0) 36)
        unfold nd0 at hB2
        go_wp2
        go_ret
        exact ⟨by rw [hTf.out]; rfl, hB2⟩
      · have hst : Hid (∀ j, j < k + 1 → (asc (R.getD j ⟨#[]⟩) M).isSome = true) := fun j hj => by
          by_cases e : j = k
          · rw [e, g1]; rfl
          · exact hal.out j (by omega)
        clear g1 hal
        generalize R.getD k ⟨#[]⟩ = r at *
        have hB2 := hB.out.alloc hB.out.size (.cells (ndC y) 36)
        go_wp2
        refine ⟨⟨k + 1, by omega, by go_num, hst, hB2⟩, ?_⟩
        simp [intOf]; omega
    · have hki : ¬ (k : Int) < (n : Int) := by omega
      have hTt : Hid (T = true) := hT.out.trans (thB_yes fun j hj => hal.out j (by have := hn.out; omega))
      have hB2 := hB.out
      go_wp2
      go_ret
      exact ⟨by rw [hTt.out]; rfl, hB2⟩
end Go.Proofs.YtaffplmfnincfaaGreatDoor
/- Refs: mathematics; Inputs. -/
namespace Go.Proofs.YtaffplmfnincfaaGreatDoor
set_option linter.unusedVariables false
open Go.RowKit
theorem keeps_at {d : Array (List UInt8)} {j : Nat} : Lib.keeps d j = true ↔ j = 0 ∨ d[j]! ≠ d[j - 1]! := by
  unfold Lib.keeps
  simp
theorem compact_mem {zs : List (List UInt8)} {x : List UInt8} (h : x ∈ zs) : x ∈ Lib.compact zs := by
  obtain ⟨i, hi, rfl⟩ := List.getElem_of_mem h
  have hg : ∀ k (hk : k < zs.length), zs.toArray[k]! = zs[k] := fun k hk => by simp [hk]
  have key : ∀ n i (hi : i < zs.length), i ≤ n → zs[i] ∈ Lib.compact zs := by
    intro n
    induction n with
    | zero =>
      intro i hi h0
      obtain rfl : i = 0 := by omega
      unfold Lib.compact Lib.compactUpTo
      rw [List.mem_map]
      exact ⟨0, by simp [keeps_at, hi], hg 0 hi⟩
    | succ n ih =>
      intro i hi hn
      by_cases hk : Lib.keeps zs.toArray i = true
      · unfold Lib.compact Lib.compactUpTo
        rw [List.mem_map]
        exact ⟨i, by simp [hk, hi], hg i hi⟩
      · have h2 : ¬ (i = 0 ∨ zs.toArray[i]! ≠ zs.toArray[i - 1]!) := fun h => hk (keeps_at.2 h)
        have h3 : i ≠ 0 := fun e => h2 (.inl e)
        have h4 : zs.toArray[i]! = zs.toArray[i - 1]! := Classical.not_not.1 fun e => h2 (.inr e)
        rw [hg i hi, hg (i - 1) (by omega)] at h4
        rw [h4]
        exact ih (i - 1) (by omega) (by omega)
  exact key i i hi (Nat.le_refl _)
theorem compact_nodup {zs : List (List UInt8)} (h : zs.Pairwise (· ≤ ·)) : (Lib.compact zs).Nodup := by
  have hg : ∀ k (hk : k < zs.length), zs.toArray[k]! = zs[k] := fun k hk => by simp [hk]
  have hle : ∀ i j (hi : i < zs.length) (hj : j < zs.length), i ≤ j → zs[i] ≤ zs[j] := fun i j hi hj hij => by
    rcases Nat.lt_or_ge i j with h1 | h1
    · exact List.pairwise_iff_getElem.1 h i j hi hj h1
    · obtain rfl : i = j := by omega
      exact List.le_refl _
  unfold Lib.compact Lib.compactUpTo
  rw [List.Nodup, List.pairwise_map]
  have hr : ((List.range zs.length).filter (Lib.keeps zs.toArray)).Pairwise (· < ·) := List.Pairwise.filter _ (List.pairwise_lt_range)
  refine hr.imp_of_mem ?_
  intro i j hi hj hij e
  have hi1 : i < zs.length := by have := (List.mem_filter.1 hi).1; simpa using this
  have hj1 : j < zs.length := by have := (List.mem_filter.1 hj).1; simpa using this
  have hk := keeps_at.1 (List.mem_filter.1 hj).2
  rcases hk with hk | hk
  · omega
  · apply hk
    rw [hg i hi1, hg j hj1] at e
    rw [hg j hj1, hg (j - 1) (by omega)]
    refine List.le_antisymm ?_ (hle (j - 1) j (by omega) hj1 (by omega))
    rw [← e]
    exact hle i (j - 1) hi1 (by omega) (by omega)
theorem srt_sorted (l : List (List UInt8)) : (l.mergeSort fun x y => decide (x ≤ y)).Pairwise (· ≤ ·) := by
  have := List.pairwise_mergeSort (le := fun x y : List UInt8 => decide (x ≤ y)) (fun a b c h1 h2 => by simp only [decide_eq_true_eq] at *; exact List.le_trans h1 h2) (fun a b => by simp only [Bool.or_eq_true, decide_eq_true_eq]; exact List.le_total a b) l
  exact this.imp fun h => by simpa using h
theorem refsR_mem {x : Ex} {r : ByteArray} (h : r ∈ refsE x) : r ∈ refsR x := by
  unfold refsR cmpS'
  have h1 : r.data.toList ∈ lsB (refsE x) := List.mem_map_of_mem h
  have h2 : r.data.toList ∈ (lsB (refsE x)).mergeSort fun x y => decide (x ≤ y) := List.mem_mergeSort.2 h1
  have h3 : r.data.toList ∈ Lib.compact (lsB (srtS (refsE x))) := by
    apply compact_mem
    unfold srtS
    rw [lsB_blS]
    exact h2
  have := List.mem_map_of_mem (f := bB) h3
  rwa [bB_list] at this
theorem refsR_nodup (x : Ex) : (refsR x).Nodup := by
  unfold refsR cmpS' blS
  have h1 : (Lib.compact (lsB (srtS (refsE x)))).Nodup := by
    apply compact_nodup
    unfold srtS
    rw [lsB_blS]
    exact srt_sorted _
  rw [List.Nodup, List.pairwise_map]
  exact h1.imp fun h e => h (bB_inj e)
theorem refsR_len (x : Ex) : (refsR x).length ≤ (refsE x).length := by
  unfold refsR cmpS' blS
  rw [List.length_map]
  have := Lib.compact_length_le (lsB (srtS (refsE x)))
  simpa [lsB, srt_len] using this
theorem refs_few {x : Ex} (h : WF parC x) : (refsE x).length ≤ nodes x := by
  induction h with
  | n _ => rw [refs_n, nodes_n]; simp
  | r _ => rw [refs_r, nodes_r]; simp
  | t _ _ ih => rw [refs_1, nodes_1]; omega
  | f _ _ ih => rw [refs_1, nodes_1]; omega
  | o _ _ _ _ _ ih1 ih2 => rw [refs_2, nodes_2, List.length_append]; omega
theorem whole_one {s : ByteArray} {X Y : Ex} (h : Whole (par := parC) s X) (g : Whole (par := parC) s Y) : X = Y := by
  obtain ⟨j, h1, h2⟩ := h
  obtain ⟨j', g1, g2⟩ := g
  have := (Rd.one parC h1 g1).1
  injection this
theorem ErrT.none {s : ByteArray} {er : Int} {j : Nat} (h : ErrT s er j) (hs : s.size ≤ 1024) {X : Ex} (g : Whole (par := parC) s X) : False := by
  obtain ⟨j', g1, g2⟩ := g
  rcases h with ⟨h1, _⟩ | h1 | ⟨x, h1, h2, _⟩
  · omega
  · have := (Rd.one parC h1 g1).1
    cases this
  · obtain ⟨_, rfl⟩ := Rd.one parC h1 g1
    exact h2 g2
open Classical in
/-- The refs that a text of math has. -/
noncomputable def inpM (s : ByteArray) : List ByteArray := if h : s.size ≤ 1024 ∧ ∃ X, Whole (par := parC) s X then refsR h.2.choose else []
theorem inpM_ok {s : ByteArray} {X : Ex} (hs : s.size ≤ 1024) (h : Whole (par := parC) s X) : inpM s = refsR X := by
  have hh : s.size ≤ 1024 ∧ ∃ X, Whole (par := parC) s X := ⟨hs, X, h⟩
  unfold inpM
  rw [dif_pos hh, whole_one hh.2.choose_spec h]
theorem inpM_no {s : ByteArray} {er : Int} {j : Nat} (h : ErrT s er j) : inpM s = [] := by
  unfold inpM
  rw [dif_neg]
  rintro ⟨hs, X, hX⟩
  exact h.none hs hX
/-- The refs that a node hangs on. -/
noncomputable def inpN (x : Nd) : List ByteArray := if x.kind = 2 ∨ x.kind = 4 then [x.input] else if x.kind = 3 then inpM x.text else []
theorem inpN_in {x : Nd} (h : x.kind = 2 ∨ x.kind = 4) : inpN x = [x.input] := if_pos h
theorem inpN_math {x : Nd} (h : x.kind = 3) : inpN x = inpM x.text := by
  unfold inpN
  rw [if_neg (by omega), if_pos h]
theorem inpN_no {x : Nd} (h2 : ¬ x.kind = 2) (h4 : ¬ x.kind = 4) (h3 : ¬ x.kind = 3) : inpN x = [] := by
  unfold inpN
  rw [if_neg (by omega), if_neg h3]
theorem one_txs (w : World) (o : Obj) (s : ByteArray) : Txs ((w.alloc o).alloc (.cells #[.string s] 9)) (.slice (some ⟨w.heap.size + 1, 0, none⟩) 1 1) [s] := by
  have h := sls_one (E := encS) (w.alloc o) s #[.string s] 9 rfl
  have e : (w.alloc o).heap.size = w.heap.size + 1 := by simp
  rw [e] at h
  exact h
theorem inpM_len (s : ByteArray) : (inpM s).length ≤ 1024 := by
  by_cases h : s.size ≤ 1024 ∧ ∃ X, Whole (par := parC) s X
  · obtain ⟨hs, X, hX⟩ := h
    rw [inpM_ok hs hX]
    obtain ⟨_, _, _, _, _, _, _, hWF⟩ := hX.toks
    have := refsR_len X
    have := refs_few hWF
    have := hX.nodes.1
    omega
  · unfold inpM
    rw [dif_neg h]
    simp
theorem inpN_len (x : Nd) : (inpN x).length ≤ 1024 := by
  unfold inpN
  split
  · simp
  · split
    · exact inpM_len _
    · simp
set_option maxRecDepth 100000 in
set_option maxHeartbeats 8000000 in
/-- Inputs. -/
theorem inputs12f (x : Nd) (w : World) (hG : G w) (hS : SignsAt w) (hs : x.text.size ≤ 9223372036854775807) : Calls Tryz.prog 12 #[ndV x] w fun e w' => ∃ a n c, e = .returned (.slice a n c) ∧ Hid (Txs w' (.slice a n c) (inpN x) ∧ Below w.heap.size w w' ∧ FreshA w.heap.size a) := by
  obtain ⟨ref, kind, source, input, how, strict, low, high, text⟩ := x
  have hb0 := bW0 w (.cells #[.string ref, .int .i64 kind, .string source, .string input, .string how, .bool strict, .int .i64 low.kind, .int .i64 low.n, .int .i64 high.kind, .int .i64 high.n, .string text] 36)
  by_cases h2 : kind = 2
  · subst h2
    have hI : Hid (inpN ⟨ref, 2, source, input, how, strict, low, high, text⟩ = [input]) := inpN_in (.inl rfl)
    generalize inpN ⟨ref, 2, source, input, how, strict, low, high, text⟩ = I at *
    go_enter Tryz.func12, Tryz.ntmps12
    go_wp2
    go_ret
    exact ⟨_, _, _, rfl, by rw [hI.out]; exact one_txs _ _ _, hb0.trans ((bW0 _ _).mono hb0.size), fun ad e => by cases e; exact Nat.le_succ _⟩
  by_cases h4 : kind = 4
  · subst h4
    have hI : Hid (inpN ⟨ref, 4, source, input, how, strict, low, high, text⟩ = [input]) := inpN_in (.inr rfl)
    generalize inpN ⟨ref, 4, source, input, how, strict, low, high, text⟩ = I at *
    clear h2
    go_enter Tryz.func12, Tryz.ntmps12
    go_wp2
    go_ret
    exact ⟨_, _, _, rfl, by rw [hI.out]; exact one_txs _ _ _, hb0.trans ((bW0 _ _).mono hb0.size), fun ad e => by cases e; exact Nat.le_succ _⟩
  by_cases h3 : kind = 3
  · subst h3
    have hI : Hid (inpN ⟨ref, 3, source, input, how, strict, low, high, text⟩ = inpM text) := inpN_math rfl
    generalize inpN ⟨ref, 3, source, input, how, strict, low, high, text⟩ = I at *
    clear h2 h4
    have hp := parse8 text _ (hG.grow hb0) (hS.grow hb0) hs
    have hrf : Hid (∀ (w1 : World) (k : Int) (n : ByteArray) (x y : Int) (a : Option Addr) (m c : Nat) (X : Ex) (P : Nat → Prop), text.size ≤ 1024 → Whole (par := parC) text X → ExV w1 P X (.agg #[.int .i64 k, .string n, .int .i64 x, .int .i64 y, .slice a m c]) → Below w.heap.size w w1 → Calls Tryz.prog 29 #[.agg #[.int .i64 k, .string n, .int .i64 x, .int .i64 y, .slice a m c]] (w1.alloc (.cells #[.int .i64 k, .string n, .int .i64 x, .int .i64 y, .slice a m c] 62)) fun e w' => ∃ a n c, e = .returned (.slice a n c) ∧ Hid (Txs w' (.slice a n c) I ∧ Below w.heap.size w w' ∧ FreshA w.heap.size a)) := fun w1 k n x y a m c X P ht hX hV hB => by
      obtain ⟨_, _, _, _, _, _, _, hWF⟩ := hX.toks
      have e1 := refs_few hWF
      have e2 := hX.nodes.1
      have hb1 := bW0 w1 (.cells #[.int .i64 k, .string n, .int .i64 x, .int .i64 y, .slice a m c] 62)
      refine (refs17f _ hWF (by omega) k n x y a m c (((hV.grow hb1).less).more fun b hb => hb.2)).mono ?_
      rintro e w' ⟨a', n', c', rfl, h⟩
      obtain ⟨g1, g2, g3⟩ := h.out
      have hB1 := hB.trans (hb1.mono hB.size)
      exact ⟨a', n', c', rfl, by rw [hI.out, inpM_ok ht hX]; exact g1, hB1.trans (g2.mono hB1.size), g3.mono hB1.size⟩
    have hno : Hid (∀ er j, ErrT text er j → I = []) := fun er j h => hI.out.trans (inpM_no h)
    clear hI hG hS hs
    go_enter Tryz.func12, Tryz.ntmps12
    go_wp2_with (first
      | (go_at_call 28; refine hp.mono ?_; clear hp; rintro e w1 ⟨k, n, x, y, a, m, c, er, at', rfl, h1⟩; obtain ⟨hb1, -, h1⟩ := h1.out; have hB1 := hb0.trans (hb1.mono hb0.size); clear hb1; rcases h1 with ⟨her, hE⟩ | ⟨rfl, ht, X, hX, hV⟩)
      | (go_at_call 29; refine (hrf.out _ _ _ _ _ _ _ _ X _ ht hX hV hB1).mono ?_; rintro e w2 ⟨a2, n2, c2, rfl, h2⟩))
    · go_ret
      exact ⟨_, _, _, rfl, by rw [hno.out _ _ hE]; exact sls_nil _, hB1.trans ((bW0 _ _).mono hB1.size), fun ad e => by cases e⟩
    · go_ret
      exact ⟨_, _, _, rfl, h2⟩
  · have hI : Hid (inpN ⟨ref, kind, source, input, how, strict, low, high, text⟩ = []) := inpN_no h2 h4 h3
    generalize inpN ⟨ref, kind, source, input, how, strict, low, high, text⟩ = I at *
    clear hG hS hs
    go_enter Tryz.func12, Tryz.ntmps12
    go_wp2
    go_ret
    exact ⟨_, _, _, rfl, by rw [hI.out]; exact sls_nil _, hb0, fun ad e => by cases e⟩
theorem inputs12 (x : Nd) (w : World) (hG : G w) (hS : SignsAt w) (hs : x.text.size ≤ 9223372036854775807) : Calls Tryz.prog 12 #[ndV x] w fun e w' => ∃ a n c, e = .returned (.slice a n c) ∧ Hid (Txs w' (.slice a n c) (inpN x) ∧ Below w.heap.size w w') :=
  (inputs12f x w hG hS hs).mono fun e w' ⟨a, n, c, h, g⟩ => ⟨a, n, c, h, g.out.1, g.out.2.1⟩
end Go.Proofs.YtaffplmfnincfaaGreatDoor
/- allInputs. -/
namespace Go.Proofs.YtaffplmfnincfaaGreatDoor
set_option linter.unusedVariables false
open Go.RowKit
/-- The refs that nodes hang on. -/
noncomputable def allI (l : List Nd) : List ByteArray := l.flatMap inpN
theorem allI_take (l : List Nd) (k : Nat) (h : k < l.length) : allI (l.take (k + 1)) = allI (l.take k) ++ inpN (l.getD k nd0) := by
  unfold allI
  rw [List.take_succ_eq_append_getElem h, List.flatMap_append, List.getD_eq_getElem?_getD, List.getElem?_eq_getElem h]
  simp
theorem allI_len (l : List Nd) : (allI l).length ≤ 1024 * l.length := by
  unfold allI
  induction l with
  | nil => simp
  | cons x r ih => rw [List.flatMap_cons, List.length_append, List.length_cons]; have := inpN_len x; omega
/-- Nodes whose texts are short. -/
def ShN (l : List Nd) : Prop := ∀ x ∈ l, x.text.size ≤ 1000000
theorem ShN.at {l : List Nd} (h : ShN l) {k : Nat} (hk : k < l.length) : (l.getD k nd0).text.size ≤ 9223372036854775807 := by
  have : (l.getD k nd0).text.size ≤ 1000000 := h _ (by rw [List.getD_eq_getElem?_getD, List.getElem?_eq_getElem hk]; exact List.getElem_mem hk)
  omega
set_option maxRecDepth 100000 in
set_option maxHeartbeats 8000000 in
/-- allInputs. -/
theorem all35 (a : Option Addr) (n c : Nat) (l : List Nd) (w : World) (hG : G w) (hS : SignsAt w) (hv : Sls encN w (.slice a n c) l) (hl : l.length ≤ 1000) (hsh : ShN l) : Calls Tryz.prog 35 #[.slice a n c] w fun e w' => ∃ a' n' c', e = .returned (.slice a' n' c') ∧ Hid (OwnT w' w.heap.size (.slice a' n' c') (allI l) ∧ Below w.heap.size w w') := by
  have hn : Hid (n = l.length) := hv.len
  have hn1 : n ≤ 1000 := by have := hn.out; omega
  have hrow : Hid (∀ W, Below w.heap.size w W → Sls encN W (.slice a n c) l) := fun W h => hv.grow h
  have hinp : Hid (∀ k W, k < l.length → Below w.heap.size w W → Calls Tryz.prog 12 #[ndV (l.getD k nd0)] (W.alloc (.cells (ndC (l.getD k nd0)) 36)) fun e w' => ∃ a n c, e = .returned (.slice a n c) ∧ Hid (Txs w' (.slice a n c) (inpN (l.getD k nd0)) ∧ Below W.heap.size W w')) := fun k W hk hB => by
    have hb := bW0 W (.cells (ndC (l.getD k nd0)) 36)
    have hB2 := hB.trans (hb.mono hB.size)
    refine (inputs12 (l.getD k nd0) _ (hG.grow hB2) (hS.grow hB2) (hsh.at hk)).mono ?_
    rintro e w' ⟨a, n, c, rfl, h⟩
    exact ⟨a, n, c, rfl, h.out.1, hb.trans (h.out.2.mono hb.size)⟩
  clear hv hG hS hsh
  go_enter Tryz.func35, Tryz.ntmps35
  go_wp2
  go_loopw [3, 8] (fun v i wr => ∃ (k : Nat) (a' : Option Addr) (n' c' : Nat), k ≤ n ∧ i = .int .i64 k ∧ v = .slice a' n' c' ∧ Hid (OwnT wr w.heap.size v (allI (l.take k))) ∧ Hid (Below w.heap.size w wr)) (fun _ i _ => n - (intOf i).toNat)
  case atStart => exact ⟨0, none, 0, 0, Nat.zero_le _, rfl, rfl, OwnS.nil _ _, Below.refl _ _⟩
  case round =>
    obtain ⟨k, a', n', c', hk, rfl, rfl, hov, hB⟩ := hrel
    by_cases hlt : k < n
    · have hki : (k : Int) < (n : Int) := by omega
      have hkl : k < l.length := by have := hn.out; omega
      obtain ⟨b, o, rfl, c0, c1, c2, c3, c4, c5, c6, c7, c8, c9, c10⟩ := nd_at (hrow.out wr hB.out) k hkl
      have hcall := hinp.out k wr hkl hB.out
      have hst : Hid (allI (l.take (k + 1)) = allI (l.take k) ++ inpN (l.getD k nd0)) := allI_take l k hkl
      have hlen : (allI (l.take k)).length + (inpN (l.getD k nd0)).length ≤ 1000000000 := by
        have h1 := allI_len (l.take k)
        have h2 := inpN_len (l.getD k nd0)
        rw [List.length_take] at h1
        omega
      generalize l.getD k nd0 = x at *
      generalize allI (l.take k) = L at *
      generalize inpN x = M at *
      have hB1 := hB.out
      go_wp2_with (first
        | (go_at_call 12; refine hcall.mono ?_; clear hcall; rintro e w1 ⟨a1, n1, c1', rfl, h1⟩; have hB2 := hB1.trans (h1.out.2.mono hB1.size); have ho1 := hov.out.stay h1.out.2)
        | (at_builtin; refine appR TS rfl (.tmp 12) (.tmp 14) rfl w.heap.size _ _ L M rfl rfl ho1 h1.out.1 hB2.size hlen ?_; intro v2 w2 ho2 hg2; have hB3 := hB2.trans (ho1.grows hB2.size hg2); obtain ⟨a3, c3', hv3⟩ := ho2.shape; rw [← hst.out] at ho2; obtain ⟨n3, hn3⟩ : ∃ n3, n3 = (L ++ M).length := ⟨_, rfl⟩; rw [← hn3] at hv3; clear hn3; subst hv3))
      go_roundw
      case rel => exact ⟨k + 1, a3, n3, c3', by omega, by go_num, rfl, ho2, hB3⟩
      case measure => simp [intOf]; omega
    · have hki : ¬ (k : Int) < (n : Int) := by omega
      have hfin : Hid (OwnT wr w.heap.size (.slice a' n' c') (allI l)) := by
        have h := hov.out
        rw [List.take_of_length_le (by have := hn.out; omega)] at h
        exact h
      go_wp2
      go_ret
      exact ⟨_, _, _, rfl, hfin.out, hB.out⟩
end Go.Proofs.YtaffplmfnincfaaGreatDoor
