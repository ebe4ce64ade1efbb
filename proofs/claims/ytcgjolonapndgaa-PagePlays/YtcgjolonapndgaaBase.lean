/- The notions: bytes that are read, bytes that a block holds, what may turn, a map from numbers. -/
import Derived.Test.YtcgjolonapndgaaRows
import Derived.WalkKit
import Derived.WalkSpells
import Derived.WalkLawsBesides
import Derived.Outline
import Derived.Maps.RangeWalk
import Derived.Maps.Ext
import Derived.Laws.CopyOwn
import Derived.Laws.BytesArg
import Derived.Lib.SliceRun
namespace Go.Proofs.Ytcgjolonapndgaa
open Go.RowKit Go.Maps Go.ChangeMaps Go.MapKept

def Rest (w : World) (k len b o : Nat) (f : Nat → Value) : Prop := ∀ t, k ≤ t → t < len → w.cell? ⟨b, o + t, none⟩ = some (f t)
/-- A slice value whose elements are the bytes bs. -/
def Bts (w : World) (v : Value) (bs : List Int) : Prop :=
  ∃ a c, v = .slice a bs.length c ∧ ((a = none → c = 0) ∧ bs.length ≤ c) ∧ (bs = [] ∨ ∃ b o, a = some ⟨b, o, none⟩ ∧ Rest w 0 bs.length b o fun t => .int .u8 (bs.getD t 0))

/-- What may turn: blocks of F, and new ones. -/
structure Frm (F : Nat → Prop) (w w' : World) : Prop where
  os : w'.os = w.os
  tape : w'.tape = w.tape
  output : w'.output = w.output
  size : w.heap.size ≤ w'.heap.size
  block : ∀ k, k < w.heap.size → ¬ F k → w'.heap[k]? = w.heap[k]?

theorem Frm.refl (F : Nat → Prop) (w : World) : Frm F w w := ⟨rfl, rfl, rfl, Nat.le_refl _, fun _ _ _ => rfl⟩
theorem Frm.trans {F G : Nat → Prop} {a b c : World} (h : Frm F a b) (k : Frm G b c) (hG : ∀ j, G j → F j ∨ a.heap.size ≤ j) : Frm F a c :=
  ⟨k.os.trans h.os, k.tape.trans h.tape, k.output.trans h.output, Nat.le_trans h.size k.size, fun i hi hF =>
    (k.block i (Nat.lt_of_lt_of_le hi h.size) (fun hg => by rcases hG i hg with h1 | h1; exact hF h1; omega)).trans (h.block i hi hF)⟩
theorem Frm.mono {F G : Nat → Prop} {a b : World} (h : Frm F a b) (hG : ∀ j, F j → G j ∨ a.heap.size ≤ j) : Frm G a b :=
  (Frm.refl G a).trans h hG
theorem Frm.of_grown {w w' : World} {row : Option Nat} {F : Nat → Prop} (h : w.grownBy w' row) (hF : ∀ j, row = some j → F j ∨ w.heap.size ≤ j) : Frm F w w' :=
  ⟨h.os, h.tape, h.output, h.size, fun k hk hn => h.block k hk (fun e => by rcases hF k e.symm with h1 | h1; exact hn h1; omega)⟩
theorem Frm.of_below {w w' : World} (h : Below w.heap.size w w') (F : Nat → Prop) : Frm F w w' := ⟨h.os, h.tape, h.output, h.size, fun k hk _ => h.block k hk⟩
theorem Frm.alloc (F : Nat → Prop) (w : World) (o : Obj) : Frm F w (w.alloc o) := Frm.of_below ((Below.refl _ w).alloc (Nat.le_refl _) o) F
theorem Frm.below {F : Nat → Prop} {B : Nat} {w w' : World} (h : Frm F w w') (hB : B ≤ w.heap.size) (hF : ∀ k, F k → B ≤ k) : Below B w w' :=
  ⟨h.os, h.tape, h.output, h.size, fun k hk => h.block k (by omega) (fun hf => by have := hF k hf; omega)⟩
theorem Frm.drewN {F : Nat → Prop} {a b : World} (h : Frm F a b) (n : Nat) : Frm F a (b.drewN n) := ⟨h.os, h.tape, h.output, h.size, h.block⟩

theorem Bts.keep {w w' : World} {v : Value} {bs : List Int} (h : Bts w v bs) (hv : ∀ k, v.ownBlock = some k → w'.heap[k]? = w.heap[k]?) : Bts w' v bs := by
  obtain ⟨a, c, rfl, hn, h1⟩ := h
  refine ⟨a, c, rfl, hn, ?_⟩
  rcases h1 with h1 | ⟨b, o, rfl, hr⟩
  · exact .inl h1
  · refine .inr ⟨b, o, rfl, fun t h0 ht => ?_⟩
    have := hr t h0 ht
    have e := hv b rfl
    simp only [World.cell?] at this ⊢
    rw [e]; exact this
theorem Bts.lt {w : World} {v : Value} {bs : List Int} (h : Bts w v bs) (h0 : bs ≠ []) : ∀ k, v.ownBlock = some k → k < w.heap.size := by
  obtain ⟨a, c, rfl, hn, h1⟩ := h
  rcases h1 with h1 | ⟨b, o, rfl, hr⟩
  · exact absurd h1 h0
  · intro k hk
    cases hk
    have hl : 0 < bs.length := List.length_pos_iff.2 h0
    exact World.block_lt_of_cell? w _ (hr 0 (Nat.le_refl _) hl)
/-- New blocks, and writes to what was not there: what is read stays. -/
theorem Bts.grow {w w' : World} {v : Value} {bs : List Int} (h : Bts w v bs) (hb : Below w.heap.size w w') : Bts w' v bs := by
  obtain ⟨a, c, rfl, hn, h1⟩ := h
  refine ⟨a, c, rfl, hn, ?_⟩
  rcases h1 with h1 | ⟨b, o, rfl, hr⟩
  · exact .inl h1
  · refine .inr ⟨b, o, rfl, fun t h0 ht => ?_⟩
    have := hr t h0 ht
    exact (hb.cell (p := ⟨b, o + t, none⟩) (World.block_lt_of_cell? w _ this)).trans this
theorem Bts.alloc {w : World} {v : Value} {bs : List Int} (h : Bts w v bs) (o : Obj) : Bts (w.alloc o) v bs :=
  h.grow ((Below.refl _ w).alloc (Nat.le_refl _) o)
theorem bts_nil (w : World) : Bts w (.slice none 0 0) [] := ⟨none, 0, rfl, ⟨fun _ => rfl, Nat.le_refl _⟩, .inl rfl⟩
theorem add_at (b o j : Nat) : (⟨b, o, none⟩ : Addr).add j = ⟨b, o + j, none⟩ := by cases j <;> simp [Addr.add]

/-- Block g holds the bytes bs. -/
def Row (w : World) (g : Nat) (bs : List Int) : Prop := w.heap[g]? = some (.cells (bs.map (Value.int .u8)).toArray 5 (0, 0))
theorem Row.lt {w : World} {g : Nat} {bs : List Int} (h : Row w g bs) : g < w.heap.size := (Array.getElem?_eq_some_iff.1 h).1
theorem Row.cell {w : World} {g : Nat} {bs : List Int} (h : Row w g bs) (t : Nat) (ht : t < bs.length) : w.cell? ⟨g, t, none⟩ = some (.int .u8 (bs.getD t 0)) := by
  unfold Row at h
  simp [World.cell?, h, ht]
theorem Row.bts {w : World} {g : Nat} {bs : List Int} (h : Row w g bs) : Bts w (.slice (some ⟨g, 0, none⟩) bs.length bs.length) bs :=
  ⟨_, bs.length, rfl, ⟨(fun e => by cases e), Nat.le_refl _⟩, .inr ⟨g, 0, rfl, fun t _ ht => by rw [Nat.zero_add]; exact h.cell t ht⟩⟩
theorem Row.keep {w w' : World} {g : Nat} {bs : List Int} (h : Row w g bs) (e : w'.heap[g]? = w.heap[g]?) : Row w' g bs := e.trans h

theorem size5 (W : World) : (sizeOf (Try.prog.elem 23)).run Try.prog W = .ok 1 W := by kernel_rfl
theorem elem33 : Try.prog.underlying 23 = some (.slice (Try.prog.elem 23)) := by kernel_rfl
theorem info5 : (Try.prog.info? 5).map (fun i => (i.zero, i.size, i.bytes)) = some (some (.int .u8 0), 1, 1) := by kernel_rfl

theorem len_bts {w : World} {v : Value} {bs : List Int} (hb : Bts w v bs) (W : World) : (Builtin.len_ #[23] 3 #[v]).run Try.prog W = .ok (.int .i64 (bs.length : Nat)) W := by
  obtain ⟨a, c, rfl, _, _⟩ := hb
  rw [run_len_slice W 23 3 a bs.length c elem33]; rfl

/-- A string of bytes. -/
def strOf (bs : List Int) : ByteArray := strOfNums bs
theorem conv_str {w : World} {v : Value} {bs : List Int} (hb : Bts w v bs) : (convert 23 9 v).run Try.prog w = .ok (.string (strOfNums bs)) w := by
  obtain ⟨ad, c, rfl, hnil, hcell⟩ := hb
  rcases hcell with rfl | ⟨b, o, rfl, hr⟩
  · cases ad with
    | none => exact run_convert_bytes_nil w 23 5 Try.underlying23 Try.underlying5 _ _ 9 Try.underlying9
    | some ad =>
      rw [run_convert_bytes_string w 23 9 5 _ _ _ Try.underlying23 Try.underlying5 Try.underlying9]
      simp [Conv.bytesToString, loadCells]
      rfl
  · exact run_convert_bytes_arg w 23 5 Try.underlying23 Try.underlying5 b o bs.length c bs rfl (fun i hi => hr i (Nat.zero_le _) hi) 9 Try.underlying9

/-! ### Maps from numbers -/
theorem law : Keyed Try.prog 3 := int_keyed Try.underlying3
theorem key_int {k : Int} (h1 : -9223372036854775808 ≤ k) (h2 : k ≤ 9223372036854775807) : keyOf Try.prog 3 (.int .i64 k) = some (.int .i64 k) :=
  keyOf_int_mk Try.underlying3 (WalkArith.wf_i64 (by omega))

/-- Block b is a map of at most n entries that has m's. -/
def MapG {α : Type} (R : Value → Option (DataW Unit × List MemPlace)) (enc : α → DataW Unit) (w : World) (b n : Nat) (m : Int → Option α) : Prop :=
  ∃ D, w.ownsMap Try.prog 3 R b n D ∧ ∀ k, Maps.has D (.int .i64 k) = (m k).isSome ∧ ∀ x, m k = some x → ∀ z, D.atKey (.int .i64 k) z = enc x

/-- m with x at k. -/
def upd {α : Type} (m : Int → α) (k : Int) (x : α) : Int → α := fun j => if j = k then x else m j

theorem i64_ne {a b : Int} (h : a ≠ b) : (Lit.int .i64 a) ≠ (Lit.int .i64 b) := fun e => by cases e; exact h rfl

section
variable {α : Type} {R : Value → Option (DataW Unit × List MemPlace)} {enc : α → DataW Unit} {w w' : World} {b n : Nat} {m : Int → Option α}
theorem MapG.lt (h : MapG R enc w b n m) : b < w.heap.size := by obtain ⟨D, h, _⟩ := h; exact h.lt
theorem MapG.keep (h : MapG R enc w b n m) (e : w'.heap[b]? = w.heap[b]?) : MapG R enc w' b n m := by
  obtain ⟨D, ⟨es, clock, hb, r⟩, h2⟩ := h
  exact ⟨D, ⟨es, clock, e.trans hb, r⟩, h2⟩
theorem MapG.mono (h : MapG R enc w b n m) {n' : Nat} (hn : n ≤ n') : MapG R enc w b n' m := by
  obtain ⟨D, h1, h2⟩ := h
  exact ⟨D, h1.mono hn, h2⟩
theorem mapG_made (w : World) : MapG R enc (w.alloc (.map #[] 0)) w.heap.size 0 (fun _ => none) :=
  ⟨.map [], World.ownsMap_made _ _ _ _, fun k => ⟨rfl, fun x h => by cases h⟩⟩
theorem MapG.isMap (h : MapG R enc w b n m) : ∃ es clock, w.heap[b]? = some (.map es clock) := by
  obtain ⟨D, ⟨es, clock, hb, r⟩, h2⟩ := h
  exact ⟨es, clock, hb⟩
theorem MapG.update {t e : TypeId} (h : MapG R enc w b n m) (ht : Try.prog.underlying t = some (.map 3 e)) (hn : n < maxLen) {k : Int} (h1 : -9223372036854775808 ≤ k) (h2 : k ≤ 9223372036854775807) {val : Value} {x : α} {ps : List MemPlace}
    (hv : R val = some (enc x, ps)) : ∃ w', (Instr.mapUpdate t (.map (some b)) (.int .i64 k) val).run Try.prog w = .ok () w' ∧ MapG R enc w' b (n + 1) (upd m k (some x)) ∧ w.mapTurned w' b := by
  obtain ⟨D, ho, hm⟩ := h
  obtain ⟨w', hr, ho', ht'⟩ := ho.store law ht hn (key_int h1 h2) hv
  have hD := ho.isMap
  refine ⟨w', hr, ⟨_, ho', fun j => ?_⟩, ht'⟩
  unfold upd
  by_cases e : j = k
  · subst e
    rw [if_pos rfl]
    refine ⟨has_put_same hD (show WideAt.IsKeyLit (.int .i64 j) from trivial) _, fun y hy z => ?_⟩
    cases hy
    exact atKey_put_same hD (show WideAt.IsKeyLit (.int .i64 j) from trivial) _ _
  · rw [if_neg e]
    refine ⟨by rw [has_put_other (i64_ne e)]; exact (hm j).1, fun y hy z => ?_⟩
    rw [atKey_put_other (i64_ne e)]
    exact (hm j).2 y hy z
theorem MapG.clear {t e : TypeId} (h : MapG R enc w b n m) (ht : Try.prog.underlying t = some (.map 3 e)) :
    ∃ w', (∀ ty, (Builtin.clear_ #[t] ty #[.map (some b)]).run Try.prog w = .ok (.tuple #[]) w') ∧ MapG R enc w' b 0 (fun _ => none) ∧ w.mapTurned w' b := by
  obtain ⟨D, ⟨es, clock, hb, F, hs, hD⟩, hm⟩ := h
  refine ⟨setBlock w b (.map #[] clock), fun ty => ?_, ⟨.map [], ⟨#[], clock, heap_setBlock_same hb _, ⟨by simp, stamped_empty clock, by simp⟩, Nat.le_refl _, rfl⟩, fun k => ⟨rfl, fun x h => by cases h⟩⟩, ⟨es, clock, #[], clock, hb, rfl⟩⟩
  simp [Builtin.clear_, run_underlying ht, MapKept.run_getObj_map hb, MapKept.run_setObj_map _ hb, Result.andThen, setBlock]
theorem MapG.look {t e : TypeId} (h : MapG R enc w b n m) (ht : Try.prog.underlying t = some (.map 3 e)) {z : Value} (hz : (zeroValue e).run Try.prog w = .ok z w) {zd : DataW Unit} {zp : List MemPlace} (hzd : R z = some (zd, zp))
    {k : Int} (h1 : -9223372036854775808 ≤ k) (h2 : k ≤ 9223372036854775807) : ∃ v ps, (Instr.lookup t (.map (some b)) (.int .i64 k) false).run Try.prog w = .ok v w ∧ R v = some ((match m k with | some x => enc x | none => zd), ps) := by
  obtain ⟨D, ho, hm⟩ := h
  obtain ⟨v, ps, hr, hR⟩ := ho.lookup law ht hz hzd (key_int h1 h2)
  refine ⟨v, ps, hr, ?_⟩
  rw [hR]
  cases hk : m k with
  | some x => rw [(hm k).2 x hk]
  | none => rw [atKey_of_not_has (by rw [(hm k).1, hk]; rfl)]
theorem MapG.look_ok {t e : TypeId} (h : MapG R enc w b n m) (ht : Try.prog.underlying t = some (.map 3 e)) {z : Value} (hz : (zeroValue e).run Try.prog w = .ok z w) {zd : DataW Unit} {zp : List MemPlace} (hzd : R z = some (zd, zp))
    {k : Int} (h1 : -9223372036854775808 ≤ k) (h2 : k ≤ 9223372036854775807) : ∃ v ps, (Instr.lookup t (.map (some b)) (.int .i64 k) true).run Try.prog w = .ok (.tuple #[v, .bool (m k).isSome]) w ∧ R v = some ((match m k with | some x => enc x | none => zd), ps) := by
  obtain ⟨D, ho, hm⟩ := h
  obtain ⟨v, ps, hr, hR⟩ := ho.look_ok law ht hz hzd (key_int h1 h2)
  rw [(hm k).1] at hr
  refine ⟨v, ps, hr, ?_⟩
  rw [hR]
  cases hk : m k with
  | some x => rw [(hm k).2 x hk]
  | none => rw [atKey_of_not_has (by rw [(hm k).1, hk]; rfl)]
end

/-! ### The disk's two maps: from a sector to the block of its bytes -/
def slR (s : Nat) : Value → Option (DataW Unit × List MemPlace)
  | .slice (some a) n c => if a.off = 0 ∧ a.spot = none ∧ n = s ∧ c = s then some (.lit (.int .i64 a.block), []) else none
  | .slice none n c => if n = 0 ∧ c = 0 then some (.nil, []) else none
  | _ => none
def blkD (g : Nat) : DataW Unit := .lit (.int .i64 g)
/-- The slice of block g. -/
def slV (s g : Nat) : Value := .slice (some ⟨g, 0, none⟩) s s

theorem slR_mk (s g : Nat) : slR s (slV s g) = some (blkD g, []) := by simp [slR, slV, blkD]
theorem slR_nil (s : Nat) : slR s (.slice none 0 0) = some (.nil, []) := by simp [slR]
theorem slR_blk {s g : Nat} {v : Value} {ps : List MemPlace} (h : slR s v = some (blkD g, ps)) : v = slV s g := by
  unfold slR at h
  split at h
  · split at h
    · rename_i a n c hc
      obtain ⟨h1, h2, rfl, rfl⟩ := hc
      cases a
      simp only [blkD, Option.some.injEq, Prod.mk.injEq, DataW.lit.injEq, Lit.int.injEq, true_and] at h
      simp only at h1 h2
      subst h1 h2
      have : (_ : Int) = _ := h.1
      simp only [slV]
      congr 3
      omega
    · cases h
  · split at h
    · cases h
    · cases h
  · cases h
theorem slR_none {s : Nat} {v : Value} {ps : List MemPlace} (h : slR s v = some (.nil, ps)) : v = .slice none 0 0 := by
  unfold slR at h
  split at h
  · split at h
    · cases h
    · cases h
  · split at h
    · rename_i n c hc
      obtain ⟨rfl, rfl⟩ := hc
      rfl
    · cases h
  · cases h
theorem slR_shape {s : Nat} {v : Value} {y : DataW Unit × List MemPlace} (h : slR s v = some y) : ∃ o : Option Nat, v = (match o with | some g => slV s g | none => .slice none 0 0) := by
  unfold slR at h
  split at h
  · split at h
    · rename_i a n c hc
      obtain ⟨h1, h2, rfl, rfl⟩ := hc
      cases a
      simp only at h1 h2
      subst h1 h2
      exact ⟨some _, rfl⟩
    · cases h
  · split at h
    · rename_i n c hc
      obtain ⟨rfl, rfl⟩ := hc
      exact ⟨none, rfl⟩
    · cases h
  · cases h
/-- Block b is a map from sectors to blocks of s bytes. -/
def SMap (s : Nat) (w : World) (b n : Nat) (m : Int → Option Nat) : Prop := MapG (slR s) blkD w b n m
theorem zero33 (w : World) : (zeroValue 23).run Try.prog w = .ok (.slice none 0 0) w := by kernel_rfl
/-- What the map gives at k. -/
def slAt (s : Nat) : Option Nat → Value
  | some g => slV s g
  | none => .slice none 0 0
theorem SMap.look {s : Nat} {w : World} {b n : Nat} {m : Int → Option Nat} (h : SMap s w b n m) {k : Int} (h1 : -9223372036854775808 ≤ k) (h2 : k ≤ 9223372036854775807) : (Instr.lookup 82 (.map (some b)) (.int .i64 k) false).run Try.prog w = .ok (slAt s (m k)) w := by
  obtain ⟨v, ps, hr, hR⟩ := MapG.look h Try.underlying82 (zero33 w) (slR_nil s) h1 h2
  rw [hr]
  cases hk : m k with
  | some g => rw [hk] at hR; rw [slR_blk hR]; rfl
  | none => rw [hk] at hR; rw [slR_none hR]; rfl
theorem SMap.look_ok {s : Nat} {w : World} {b n : Nat} {m : Int → Option Nat} (h : SMap s w b n m) {k : Int} (h1 : -9223372036854775808 ≤ k) (h2 : k ≤ 9223372036854775807) : (Instr.lookup 82 (.map (some b)) (.int .i64 k) true).run Try.prog w = .ok (.tuple #[slAt s (m k), .bool (m k).isSome]) w := by
  obtain ⟨v, ps, hr, hR⟩ := MapG.look_ok h Try.underlying82 (zero33 w) (slR_nil s) h1 h2
  rw [hr]
  cases hk : m k with
  | some g => rw [hk] at hR; rw [slR_blk hR]; rfl
  | none => rw [hk] at hR; rw [slR_none hR]; rfl
theorem SMap.update {s : Nat} {w : World} {b n : Nat} {m : Int → Option Nat} (h : SMap s w b n m) (hn : n < maxLen) {k : Int} (h1 : -9223372036854775808 ≤ k) (h2 : k ≤ 9223372036854775807) (g : Nat) :
    ∃ w', (Instr.mapUpdate 82 (.map (some b)) (.int .i64 k) (slV s g)).run Try.prog w = .ok () w' ∧ SMap s w' b (n + 1) (upd m k (some g)) ∧ w.mapTurned w' b :=
  MapG.update h Try.underlying82 hn h1 h2 (slR_mk s g)

/-! ### The torn sectors' map: from a sector to a number -/
def intD (x : Int) : DataW Unit := .lit (.int .i64 x)
def IMap (w : World) (b n : Nat) (m : Int → Option Int) : Prop := MapG (plainElem Try.prog 3) intD w b n m ∧ ∀ k x, m k = some x → -9223372036854775808 ≤ x ∧ x ≤ 9223372036854775807
theorem zero3 (w : World) : (zeroValue 3).run Try.prog w = .ok (.int .i64 0) w := by kernel_rfl
theorem IMap.look {w : World} {b n : Nat} {m : Int → Option Int} (h : IMap w b n m) {k : Int} (h1 : -9223372036854775808 ≤ k) (h2 : k ≤ 9223372036854775807) : (Instr.lookup 102 (.map (some b)) (.int .i64 k) false).run Try.prog w = .ok (.int .i64 ((m k).getD 0)) w := by
  obtain ⟨v, ps, hr, hR⟩ := MapG.look h.1 Try.underlying102 (zero3 w) (plainElem_int Try.underlying3 (by decide)) h1 h2
  rw [hr]
  obtain ⟨c, rfl, hc, _⟩ := plainElem_int_inv Try.underlying3 hR
  cases hk : m k with
  | some x => rw [hk] at hc; cases hc; rfl
  | none => rw [hk] at hc; cases hc; rfl
theorem IMap.look_ok {w : World} {b n : Nat} {m : Int → Option Int} (h : IMap w b n m) {k : Int} (h1 : -9223372036854775808 ≤ k) (h2 : k ≤ 9223372036854775807) : (Instr.lookup 102 (.map (some b)) (.int .i64 k) true).run Try.prog w = .ok (.tuple #[.int .i64 ((m k).getD 0), .bool (m k).isSome]) w := by
  obtain ⟨v, ps, hr, hR⟩ := MapG.look_ok h.1 Try.underlying102 (zero3 w) (plainElem_int Try.underlying3 (by decide)) h1 h2
  rw [hr]
  obtain ⟨c, rfl, hc, _⟩ := plainElem_int_inv Try.underlying3 hR
  cases hk : m k with
  | some x => rw [hk] at hc; cases hc; rfl
  | none => rw [hk] at hc; cases hc; rfl
theorem IMap.update {w : World} {b n : Nat} {m : Int → Option Int} (h : IMap w b n m) (hn : n < maxLen) {k : Int} (h1 : -9223372036854775808 ≤ k) (h2 : k ≤ 9223372036854775807) {x : Int} (hx1 : -9223372036854775808 ≤ x) (hx2 : x ≤ 9223372036854775807) :
    ∃ w', (Instr.mapUpdate 102 (.map (some b)) (.int .i64 k) (.int .i64 x)).run Try.prog w = .ok () w' ∧ IMap w' b (n + 1) (upd m k (some x)) ∧ w.mapTurned w' b := by
  obtain ⟨w', hr, hm, ht⟩ := MapG.update h.1 Try.underlying102 hn h1 h2 (plainElem_int Try.underlying3 (a := x) (WalkArith.wf_i64 (by omega)))
  refine ⟨w', hr, ⟨hm, fun j y hy => ?_⟩, ht⟩
  unfold upd at hy
  split at hy
  · cases hy; exact ⟨hx1, hx2⟩
  · exact h.2 j y hy
theorem IMap.keep {w w' : World} {b n : Nat} {m : Int → Option Int} (h : IMap w b n m) (e : w'.heap[b]? = w.heap[b]?) : IMap w' b n m := ⟨h.1.keep e, h.2⟩
theorem IMap.lt {w : World} {b n : Nat} {m : Int → Option Int} (h : IMap w b n m) : b < w.heap.size := h.1.lt
theorem iMap_made (w : World) : IMap (w.alloc (.map #[] 0)) w.heap.size 0 (fun _ => none) := ⟨mapG_made w, fun k x h => by cases h⟩
end Go.Proofs.Ytcgjolonapndgaa
