/- Maps from numbers; the pages that a walk has met. -/
import Derived.Test.YtdobleekjiehdaaGreatSnd
import Derived.Maps.RangeWalk
import Derived.Maps.Ext
namespace Go.Proofs.YtdobleekjiehdaaGreat
set_option linter.unusedVariables false
open Go.RowKit Go.Maps Go.ChangeMaps Go.MapKept
/-! ### Maps from numbers -/
theorem law : Keyed Tryz.prog 3 := int_keyed Tryz.underlying3
theorem key_int {k : Int} (h1 : -9223372036854775808 ≤ k) (h2 : k ≤ 9223372036854775807) : keyOf Tryz.prog 3 (.int .i64 k) = some (.int .i64 k) :=
  keyOf_int_mk Tryz.underlying3 (WalkArith.wf_i64 (by omega))

/-- Block b is a map of at most n entries that has m's. -/
def MapG {α : Type} (R : Value → Option (DataW Unit × List MemPlace)) (enc : α → DataW Unit) (w : World) (b n : Nat) (m : Int → Option α) : Prop :=
  ∃ D, w.ownsMap Tryz.prog 3 R b n D ∧ ∀ k, Maps.has D (.int .i64 k) = (m k).isSome ∧ ∀ x, m k = some x → ∀ z, D.atKey (.int .i64 k) z = enc x

/-- m with x at k. -/
def upd {α : Type} (m : Int → α) (k : Int) (x : α) : Int → α := fun j => if j = k then x else m j

theorem i64_ne {a b : Int} (h : a ≠ b) : (Lit.int .i64 a) ≠ (Lit.int .i64 b) := fun e => by cases e; exact h rfl

section
variable {α : Type} {R : Value → Option (DataW Unit × List MemPlace)} {enc : α → DataW Unit} {w w' : World} {b n : Nat} {m : Int → Option α}
theorem MapG.lt (h : MapG R enc w b n m) : b < w.heap.size := by obtain ⟨D, h, _⟩ := h; exact h.lt
theorem MapG.keep (h : MapG R enc w b n m) (e : w'.heap[b]? = w.heap[b]?) : MapG R enc w' b n m := by
  obtain ⟨D, ⟨es, clock, hb, r⟩, h2⟩ := h
  exact ⟨D, ⟨es, clock, e.trans hb, r⟩, h2⟩
theorem MapG.mono (h : MapG R enc w b n m) {n' : Nat} (hn : n ≤ n') : MapG R enc w b n' m := by
  obtain ⟨D, h1, h2⟩ := h
  exact ⟨D, h1.mono hn, h2⟩
theorem mapG_made (w : World) : MapG R enc (w.alloc (.map #[] 0)) w.heap.size 0 (fun _ => none) :=
  ⟨.map [], World.ownsMap_made _ _ _ _, fun k => ⟨rfl, fun x h => by cases h⟩⟩
theorem MapG.isMap (h : MapG R enc w b n m) : ∃ es clock, w.heap[b]? = some (.map es clock) := by
  obtain ⟨D, ⟨es, clock, hb, r⟩, h2⟩ := h
  exact ⟨es, clock, hb⟩
theorem MapG.update {t e : TypeId} (h : MapG R enc w b n m) (ht : Tryz.prog.underlying t = some (.map 3 e)) (hn : n < maxLen) {k : Int} (h1 : -9223372036854775808 ≤ k) (h2 : k ≤ 9223372036854775807) {val : Value} {x : α} {ps : List MemPlace}
    (hv : R val = some (enc x, ps)) : ∃ w', (Instr.mapUpdate t (.map (some b)) (.int .i64 k) val).run Tryz.prog w = .ok () w' ∧ MapG R enc w' b (n + 1) (upd m k (some x)) ∧ w.mapTurned w' b := by
  obtain ⟨D, ho, hm⟩ := h
  obtain ⟨w', hr, ho', ht'⟩ := ho.store law ht hn (key_int h1 h2) hv
  have hD := ho.isMap
  refine ⟨w', hr, ⟨_, ho', fun j => ?_⟩, ht'⟩
  unfold upd
  by_cases e : j = k
  · subst e
    rw [if_pos rfl]
    refine ⟨has_put_same hD (show WideAt.IsKeyLit (.int .i64 j) from trivial) _, fun y hy z => ?_⟩
    cases hy
    exact atKey_put_same hD (show WideAt.IsKeyLit (.int .i64 j) from trivial) _ _
  · rw [if_neg e]
    refine ⟨by rw [has_put_other (i64_ne e)]; exact (hm j).1, fun y hy z => ?_⟩
    rw [atKey_put_other (i64_ne e)]
    exact (hm j).2 y hy z
theorem MapG.clear {t e : TypeId} (h : MapG R enc w b n m) (ht : Tryz.prog.underlying t = some (.map 3 e)) :
    ∃ w', (∀ ty, (Builtin.clear_ #[t] ty #[.map (some b)]).run Tryz.prog w = .ok (.tuple #[]) w') ∧ MapG R enc w' b 0 (fun _ => none) ∧ w.mapTurned w' b := by
  obtain ⟨D, ⟨es, clock, hb, F, hs, hD⟩, hm⟩ := h
  refine ⟨setBlock w b (.map #[] clock), fun ty => ?_, ⟨.map [], ⟨#[], clock, heap_setBlock_same hb _, ⟨by simp, stamped_empty clock, by simp⟩, Nat.le_refl _, rfl⟩, fun k => ⟨rfl, fun x h => by cases h⟩⟩, ⟨es, clock, #[], clock, hb, rfl⟩⟩
  simp [Builtin.clear_, run_underlying ht, MapKept.run_getObj_map hb, MapKept.run_setObj_map _ hb, Result.andThen, setBlock]
theorem MapG.look {t e : TypeId} (h : MapG R enc w b n m) (ht : Tryz.prog.underlying t = some (.map 3 e)) {z : Value} (hz : (zeroValue e).run Tryz.prog w = .ok z w) {zd : DataW Unit} {zp : List MemPlace} (hzd : R z = some (zd, zp))
    {k : Int} (h1 : -9223372036854775808 ≤ k) (h2 : k ≤ 9223372036854775807) : ∃ v ps, (Instr.lookup t (.map (some b)) (.int .i64 k) false).run Tryz.prog w = .ok v w ∧ R v = some ((match m k with | some x => enc x | none => zd), ps) := by
  obtain ⟨D, ho, hm⟩ := h
  obtain ⟨v, ps, hr, hR⟩ := ho.lookup law ht hz hzd (key_int h1 h2)
  refine ⟨v, ps, hr, ?_⟩
  rw [hR]
  cases hk : m k with
  | some x => rw [(hm k).2 x hk]
  | none => rw [atKey_of_not_has (by rw [(hm k).1, hk]; rfl)]
theorem MapG.look_ok {t e : TypeId} (h : MapG R enc w b n m) (ht : Tryz.prog.underlying t = some (.map 3 e)) {z : Value} (hz : (zeroValue e).run Tryz.prog w = .ok z w) {zd : DataW Unit} {zp : List MemPlace} (hzd : R z = some (zd, zp))
    {k : Int} (h1 : -9223372036854775808 ≤ k) (h2 : k ≤ 9223372036854775807) : ∃ v ps, (Instr.lookup t (.map (some b)) (.int .i64 k) true).run Tryz.prog w = .ok (.tuple #[v, .bool (m k).isSome]) w ∧ R v = some ((match m k with | some x => enc x | none => zd), ps) := by
  obtain ⟨D, ho, hm⟩ := h
  obtain ⟨v, ps, hr, hR⟩ := ho.look_ok law ht hz hzd (key_int h1 h2)
  rw [(hm k).1] at hr
  refine ⟨v, ps, hr, ?_⟩
  rw [hR]
  cases hk : m k with
  | some x => rw [(hm k).2 x hk]
  | none => rw [atKey_of_not_has (by rw [(hm k).1, hk]; rfl)]
end


/-- The element of a set. -/
def uR : Value → Option (DataW Unit × List MemPlace)
  | .agg a => if a = #[] then some (.nil, []) else none
  | _ => none
def uE : Unit → DataW Unit := fun _ => .nil
/-- Block b is the set of the numbers of S, n at most. -/
def Met (w : World) (b n : Nat) (S : Int → Bool) : Prop := MapG uR uE w b n (fun k => if S k then some () else none)
theorem uR_mk : uR (.agg #[]) = some (uE (), []) := by simp [uR, uE]
theorem uR_inv {v : Value} {x : DataW Unit × List MemPlace} (h : uR v = some x) : v = .agg #[] := by
  unfold uR at h
  split at h
  · split at h
    · next hh => rw [hh]
    · cases h
  · cases h
section
variable {w w' : World} {b n : Nat} {S : Int → Bool}
theorem Met.lt (h : Met w b n S) : b < w.heap.size := MapG.lt h
theorem Met.keep (h : Met w b n S) (e : w'.heap[b]? = w.heap[b]?) : Met w' b n S := MapG.keep h e
theorem met_made (w : World) : Met (w.alloc (.map #[] 0)) w.heap.size 0 (fun _ => false) := by
  have := mapG_made (R := uR) (enc := uE) w
  unfold Met
  simpa using this
theorem Met.look (h : Met w b n S) {k : Int} (h1 : -9223372036854775808 ≤ k) (h2 : k ≤ 9223372036854775807) : (Instr.lookup 105 (.map (some b)) (.int .i64 k) true).run Tryz.prog w = .ok (.tuple #[.agg #[], .bool (S k)]) w := by
  obtain ⟨v, ps, hr, hR⟩ := MapG.look_ok h Tryz.underlying105 (z := .agg #[]) (by kernel_rfl) (zd := .nil) (zp := []) (by simp [uR]) h1 h2
  have hv := uR_inv hR
  subst hv
  rw [hr]
  cases S k <;> rfl
theorem Met.put (h : Met w b n S) (hn : n < maxLen) {k : Int} (h1 : -9223372036854775808 ≤ k) (h2 : k ≤ 9223372036854775807) : ∃ w', (Instr.mapUpdate 105 (.map (some b)) (.int .i64 k) (.agg #[])).run Tryz.prog w = .ok () w' ∧ Met w' b (n + 1) (fun j => if j = k then true else S j) ∧ w.mapTurned w' b := by
  obtain ⟨w', hr, hm, ht⟩ := MapG.update h Tryz.underlying105 hn h1 h2 uR_mk
  refine ⟨w', hr, ?_, ht⟩
  unfold Met
  have e : (fun j => if (if j = k then true else S j) = true then some () else none) = upd (fun k => if S k = true then some () else none) k (some ()) := by
    funext j
    unfold upd
    by_cases e : j = k <;> simp [e]
  rw [e]
  exact hm
end
end Go.Proofs.YtdobleekjiehdaaGreat
