/- The map from results to what is done. -/
import Derived.Test.YtiajafljgfpdcaaGreatSMv
import Derived.Maps.RangeWalk
import Derived.Maps.Ext
namespace Go.Proofs.YtiajafljgfpdcaaGreat.S
set_option linter.unusedVariables false
open Go.RowKit Go.Maps Go.ChangeMaps Go.MapKept
theorem law : Keyed Tryz.prog 3 := int_keyed Tryz.underlying3
theorem key_int {k : Int} (h1 : -9223372036854775808 ≤ k) (h2 : k ≤ 9223372036854775807) : keyOf Tryz.prog 3 (.int .i64 k) = some (.int .i64 k) :=
  keyOf_int_mk Tryz.underlying3 (WalkArith.wf_i64 (by omega))

/-- Block b is a map of at most n entries that has m's. -/
def MapG {α : Type} (R : Value → Option (DataW Unit × List MemPlace)) (enc : α → DataW Unit) (w : World) (b n : Nat) (m : Int → Option α) : Prop :=
  ∃ D, w.ownsMap Tryz.prog 3 R b n D ∧ ∀ k, Maps.has D (.int .i64 k) = (m k).isSome ∧ ∀ x, m k = some x → ∀ z, D.atKey (.int .i64 k) z = enc x

/-- m with x at k. -/
def upd {α : Type} (m : Int → α) (k : Int) (x : α) : Int → α := fun j => if j = k then x else m j

theorem i64_ne {a b : Int} (h : a ≠ b) : (Lit.int .i64 a) ≠ (Lit.int .i64 b) := fun e => by cases e; exact h rfl

section
variable {α : Type} {R : Value → Option (DataW Unit × List MemPlace)} {enc : α → DataW Unit} {w w' : World} {b n : Nat} {m : Int → Option α}
theorem MapG.lt (h : MapG R enc w b n m) : b < w.heap.size := by obtain ⟨D, h, _⟩ := h; exact h.lt
theorem MapG.keep (h : MapG R enc w b n m) (e : w'.heap[b]? = w.heap[b]?) : MapG R enc w' b n m := by
  obtain ⟨D, ⟨es, clock, hb, r⟩, h2⟩ := h
  exact ⟨D, ⟨es, clock, e.trans hb, r⟩, h2⟩
theorem MapG.mono (h : MapG R enc w b n m) {n' : Nat} (hn : n ≤ n') : MapG R enc w b n' m := by
  obtain ⟨D, h1, h2⟩ := h
  exact ⟨D, h1.mono hn, h2⟩
theorem mapG_made (w : World) : MapG R enc (w.alloc (.map #[] 0)) w.heap.size 0 (fun _ => none) :=
  ⟨.map [], World.ownsMap_made _ _ _ _, fun k => ⟨rfl, fun x h => by cases h⟩⟩
theorem MapG.isMap (h : MapG R enc w b n m) : ∃ es clock, w.heap[b]? = some (.map es clock) := by
  obtain ⟨D, ⟨es, clock, hb, r⟩, h2⟩ := h
  exact ⟨es, clock, hb⟩
theorem MapG.update {t e : TypeId} (h : MapG R enc w b n m) (ht : Tryz.prog.underlying t = some (.map 3 e)) (hn : n < maxLen) {k : Int} (h1 : -9223372036854775808 ≤ k) (h2 : k ≤ 9223372036854775807) {val : Value} {x : α} {ps : List MemPlace}
    (hv : R val = some (enc x, ps)) : ∃ w', (Instr.mapUpdate t (.map (some b)) (.int .i64 k) val).run Tryz.prog w = .ok () w' ∧ MapG R enc w' b (n + 1) (upd m k (some x)) ∧ w.mapTurned w' b := by
  obtain ⟨D, ho, hm⟩ := h
  obtain ⟨w', hr, ho', ht'⟩ := ho.store law ht hn (key_int h1 h2) hv
  have hD := ho.isMap
  refine ⟨w', hr, ⟨_, ho', fun j => ?_⟩, ht'⟩
  unfold upd
  by_cases e : j = k
  · subst e
    rw [if_pos rfl]
    refine ⟨has_put_same hD (show WideAt.IsKeyLit (.int .i64 j) from trivial) _, fun y hy z => ?_⟩
    cases hy
    exact atKey_put_same hD (show WideAt.IsKeyLit (.int .i64 j) from trivial) _ _
  · rw [if_neg e]
    refine ⟨by rw [has_put_other (i64_ne e)]; exact (hm j).1, fun y hy z => ?_⟩
    rw [atKey_put_other (i64_ne e)]
    exact (hm j).2 y hy z
theorem MapG.clear {t e : TypeId} (h : MapG R enc w b n m) (ht : Tryz.prog.underlying t = some (.map 3 e)) :
    ∃ w', (∀ ty, (Builtin.clear_ #[t] ty #[.map (some b)]).run Tryz.prog w = .ok (.tuple #[]) w') ∧ MapG R enc w' b 0 (fun _ => none) ∧ w.mapTurned w' b := by
  obtain ⟨D, ⟨es, clock, hb, F, hs, hD⟩, hm⟩ := h
  refine ⟨setBlock w b (.map #[] clock), fun ty => ?_, ⟨.map [], ⟨#[], clock, heap_setBlock_same hb _, ⟨by simp, stamped_empty clock, by simp⟩, Nat.le_refl _, rfl⟩, fun k => ⟨rfl, fun x h => by cases h⟩⟩, ⟨es, clock, #[], clock, hb, rfl⟩⟩
  simp [Builtin.clear_, run_underlying ht, MapKept.run_getObj_map hb, MapKept.run_setObj_map _ hb, Result.andThen, setBlock]
theorem MapG.look {t e : TypeId} (h : MapG R enc w b n m) (ht : Tryz.prog.underlying t = some (.map 3 e)) {z : Value} (hz : (zeroValue e).run Tryz.prog w = .ok z w) {zd : DataW Unit} {zp : List MemPlace} (hzd : R z = some (zd, zp))
    {k : Int} (h1 : -9223372036854775808 ≤ k) (h2 : k ≤ 9223372036854775807) : ∃ v ps, (Instr.lookup t (.map (some b)) (.int .i64 k) false).run Tryz.prog w = .ok v w ∧ R v = some ((match m k with | some x => enc x | none => zd), ps) := by
  obtain ⟨D, ho, hm⟩ := h
  obtain ⟨v, ps, hr, hR⟩ := ho.lookup law ht hz hzd (key_int h1 h2)
  refine ⟨v, ps, hr, ?_⟩
  rw [hR]
  cases hk : m k with
  | some x => rw [(hm k).2 x hk]
  | none => rw [atKey_of_not_has (by rw [(hm k).1, hk]; rfl)]
theorem MapG.look_ok {t e : TypeId} (h : MapG R enc w b n m) (ht : Tryz.prog.underlying t = some (.map 3 e)) {z : Value} (hz : (zeroValue e).run Tryz.prog w = .ok z w) {zd : DataW Unit} {zp : List MemPlace} (hzd : R z = some (zd, zp))
    {k : Int} (h1 : -9223372036854775808 ≤ k) (h2 : k ≤ 9223372036854775807) : ∃ v ps, (Instr.lookup t (.map (some b)) (.int .i64 k) true).run Tryz.prog w = .ok (.tuple #[v, .bool (m k).isSome]) w ∧ R v = some ((match m k with | some x => enc x | none => zd), ps) := by
  obtain ⟨D, ho, hm⟩ := h
  obtain ⟨v, ps, hr, hR⟩ := ho.look_ok law ht hz hzd (key_int h1 h2)
  rw [(hm k).1] at hr
  refine ⟨v, ps, hr, ?_⟩
  rw [hR]
  cases hk : m k with
  | some x => rw [(hm k).2 x hk]
  | none => rw [atKey_of_not_has (by rw [(hm k).1, hk]; rfl)]
end
/-- A function, as a value. -/
abbrev fnV (n : Nat) : Value := .func (.func n) #[] #[]
open Classical in
/-- How a function is read, by its number. -/
noncomputable def Rf (v : Value) : Option (DataW Unit × List MemPlace) :=
  if v = fnV 117 then some (.lit (.int .i64 117), []) else if v = fnV 118 then some (.lit (.int .i64 118), []) else if v = fnV 119 then some (.lit (.int .i64 119), []) else if v = fnV 120 then some (.lit (.int .i64 120), []) else some (.nil, [])
def encN (n : Nat) : DataW Unit := .lit (.int .i64 n)
theorem fn_ne {n m : Nat} (h : n ≠ m) : fnV n ≠ fnV m := fun e => by
  have : n = m := by simpa using e
  exact h this
theorem Rf117 : Rf (fnV 117) = some (encN 117, []) := by unfold Rf; rw [if_pos rfl]; rfl
theorem Rf118 : Rf (fnV 118) = some (encN 118, []) := by unfold Rf; rw [if_neg (fn_ne (by decide)), if_pos rfl]; rfl
theorem Rf119 : Rf (fnV 119) = some (encN 119, []) := by unfold Rf; rw [if_neg (fn_ne (by decide)), if_neg (fn_ne (by decide)), if_pos rfl]; rfl
theorem Rf120 : Rf (fnV 120) = some (encN 120, []) := by unfold Rf; rw [if_neg (fn_ne (by decide)), if_neg (fn_ne (by decide)), if_neg (fn_ne (by decide)), if_pos rfl]; rfl
theorem Rf_inv {v : Value} {n : Nat} {ps : List MemPlace} (h : Rf v = some (encN n, ps)) : v = fnV n := by
  unfold Rf encN at h
  split at h
  · rename_i e
    simp at h
    have h1 : n = 117 := by omega
    rw [h1]; exact e
  · split at h
    · rename_i e
      simp at h
      have h1 : n = 118 := by omega
      rw [h1]; exact e
    · split at h
      · rename_i e
        simp at h
        have h1 : n = 119 := by omega
        rw [h1]; exact e
      · split at h
        · rename_i e
          simp at h
          have h1 : n = 120 := by omega
          rw [h1]; exact e
        · simp at h
/-- The map. -/
def mvM : Int → Option Nat := upd (upd (upd (upd (fun _ => none) 1 (some 117)) 2 (some 118)) 3 (some 119)) 4 (some 120)
def MvAt (w : World) (b : Nat) : Prop := MapG Rf encN w b 4 mvM
theorem turned_below {w w' w'' : World} {b : Nat} (h : Below w.heap.size w w') (hb : w.heap.size ≤ b) (ht : w'.mapTurned w'' b) : Below w.heap.size w w'' :=
  h.grown ht.grown h.size (by intro k hk; cases hk; exact hb)
set_option maxRecDepth 100000 in
set_option maxHeartbeats 1000000 in
theorem moves28 (w : World) : Calls Tryz.prog 97 #[] w fun e w' => ∃ b, e = .returned (.map (some b)) ∧ MvAt w' b ∧ Below w.heap.size w w' := by
  have hb0 := bW0 w (.map #[] 0)
  obtain ⟨W1, h1, m1, t1⟩ := (mapG_made (R := Rf) (enc := encN) w).update Tryz.underlying155 (by unfold maxLen; omega) (k := 1) (by omega) (by omega) (x := 117) Rf117
  obtain ⟨W2, h2, m2, t2⟩ := m1.update Tryz.underlying155 (by unfold maxLen; omega) (k := 2) (by omega) (by omega) (x := 118) Rf118
  obtain ⟨W3, h3, m3, t3⟩ := m2.update Tryz.underlying155 (by unfold maxLen; omega) (k := 3) (by omega) (by omega) (x := 119) Rf119
  obtain ⟨W4, h4, m4, t4⟩ := m3.update Tryz.underlying155 (by unfold maxLen; omega) (k := 4) (by omega) (by omega) (x := 120) Rf120
  have hB : Hid (Below w.heap.size w W4) := turned_below (turned_below (turned_below (turned_below hb0 (Nat.le_refl _) t1) (Nat.le_refl _) t2) (Nat.le_refl _) t3) (Nat.le_refl _) t4
  have hM : Hid (MvAt W4 w.heap.size) := m4
  clear m1 m2 m3 m4 t1 t2 t3 t4 hb0
  have hmm := @run_makeMap Tryz.prog
  go_enter Tryz.func97, Tryz.ntmps97
  go_wp2
  go_ret
  exact ⟨_, rfl, hM.out, hB.out⟩
theorem zero153 (w : World) : (zeroValue 153).run Tryz.prog w = .ok .nilFunc w := by kernel_rfl
theorem Rf_nil : Rf .nilFunc = some (.nil, []) := by
  unfold Rf
  rw [if_neg (by simp), if_neg (by simp), if_neg (by simp), if_neg (by simp)]
/-- What the map gives. -/
def mvV (m : Int) : Value := if m = 1 then fnV 117 else if m = 2 then fnV 118 else if m = 3 then fnV 119 else if m = 4 then fnV 120 else .nilFunc
theorem MvAt.look {w : World} {b : Nat} (h : MvAt w b) (m : Int) (h1 : 1 ≤ m) (h2 : m ≤ 4) : (Instr.lookup 155 (.map (some b)) (.int .i64 m) true).run Tryz.prog w = .ok (.tuple #[mvV m, .bool true]) w := by
  obtain ⟨v, ps, hr, hR⟩ := MapG.look_ok h Tryz.underlying155 (zero153 w) Rf_nil (k := m) (by omega) (by omega)
  have hm : m = 1 ∨ m = 2 ∨ m = 3 ∨ m = 4 := by omega
  rcases hm with rfl | rfl | rfl | rfl
  all_goals
    rw [hr]
    simp [mvM, upd] at hR ⊢
    rw [Rf_inv hR]; rfl
theorem MvAt.look0 {w : World} {b : Nat} (h : MvAt w b) : ∃ v, (Instr.lookup 155 (.map (some b)) (.int .i64 0) true).run Tryz.prog w = .ok (.tuple #[v, .bool false]) w := by
  obtain ⟨v, ps, hr, hR⟩ := MapG.look_ok h Tryz.underlying155 (zero153 w) Rf_nil (k := 0) (by omega) (by omega)
  refine ⟨v, ?_⟩
  rw [hr]
  simp [mvM, upd]
end Go.Proofs.YtiajafljgfpdcaaGreat.S
