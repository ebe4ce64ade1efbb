/- Vk; Vn. -/
import Derived.Test.YtaffplmfnincfaaGreatDoorViVj
import Derived.Carry
import Derived.MapKept
import Derived.OwnWalk
/- A map from texts to functions: what it holds, insert, look-up. -/
namespace Go.Proofs.YtaffplmfnincfaaGreatDoor
set_option linter.unusedVariables false
open Go.RowKit Go.MapKept
/-- Every row of cells is kept. -/
def CellsKept (w w' : World) : Prop := ∀ (x : Nat) (c : Array Value) (t : TypeId) (z : Nat × Nat), w.heap[x]? = some (.cells c t z) → w'.heap[x]? = some (.cells c t z)
theorem CellsKept.of_below {w w' : World} (h : Below w.heap.size w w') : CellsKept w w' := fun x _ _ _ e => (h.block x (Array.getElem?_eq_some_iff.1 e).1).trans e
theorem CellsKept.cell {w w' : World} (h : CellsKept w w') {q : Addr} {u : Value} (e : w.cell? q = some u) : w'.cell? q = some u := by
  cases hb : w.heap[q.block]? with
  | none => simp [World.cell?, hb] at e
  | some o =>
    cases o with
    | cells c t z =>
      have h2 := h _ _ _ _ hb
      unfold World.cell? at e ⊢
      rw [hb] at e
      rw [h2]
      exact e
    | _ => simp [World.cell?, hb] at e
theorem ba_eq (a b : ByteArray) : (a == b) = decide (a = b) := by
  rw [Bool.eq_iff_iff, decide_eq_true_iff]; exact MapKept.bytes_beq a b
section
variable {β : Type} (I : World → Value → β → Prop)
/-- The entries are those of the list. -/
def Al (w : World) : List MapEntry → List (ByteArray × β) → Prop
  | [], [] => True
  | e :: es, p :: l => (e.key = .string p.1 ∧ I w e.val p.2) ∧ Al w es l
  | _, _ => False
/-- Block b is a map of just these. -/
def Tab (w : World) (b : Nat) (l : List (ByteArray × β)) : Prop := ∃ arr clock, w.heap[b]? = some (.map arr clock) ∧ Al I w arr.toList l
/-- What a text stands for. -/
def asc (op : ByteArray) : List (ByteArray × β) → Option β
  | [] => none
  | p :: l => if op = p.1 then some p.2 else asc op l
variable {I}
theorem Al.keep (hI : ∀ w w' f φ, CellsKept w w' → I w f φ → I w' f φ) {w w' : World} (hk : CellsKept w w') : ∀ {es : List MapEntry} {l : List (ByteArray × β)}, Al I w es l → Al I w' es l
  | [], [], _ => trivial
  | e :: es, p :: l, h => ⟨⟨h.1.1, hI _ _ _ _ hk h.1.2⟩, Al.keep hI hk h.2⟩
  | [], _ :: _, h => h.elim
  | _ :: _, [], h => h.elim
theorem Al.push {w : World} {f : Value} {φ : β} {key : ByteArray} {n : Nat} (hf : I w f φ) : ∀ {es : List MapEntry} {l : List (ByteArray × β)}, Al I w es l → Al I w (es ++ [⟨.string key, f, n⟩]) (l ++ [(key, φ)])
  | [], [], _ => ⟨⟨rfl, hf⟩, trivial⟩
  | e :: es, p :: l, h => ⟨h.1, Al.push hf h.2⟩
  | [], _ :: _, h => h.elim
  | _ :: _, [], h => h.elim
theorem Al.find (op : ByteArray) {w : World} : ∀ {es : List MapEntry} {l : List (ByteArray × β)}, Al I w es l →
    (asc op l = none ∧ ∀ i, Instr.findNow .string (.string op) es i = some none) ∨ (∃ φ v, asc op l = some φ ∧ I w v φ ∧ ∀ i, ∃ j, Instr.findNow .string (.string op) es i = some (some (j, v)))
  | [], [], _ => .inl ⟨rfl, fun _ => rfl⟩
  | e :: es, p :: l, h => by
    obtain ⟨⟨h1, h2⟩, h3⟩ := h
    by_cases ho : op = p.1
    · refine .inr ⟨p.2, e.val, by simp [asc, ho], h2, fun i => ⟨i, ?_⟩⟩
      simp [Instr.findNow, Instr.sameNow, h1, ho, ba_eq]
    · have hb : (op == p.1) = false := by rw [ba_eq]; simpa using ho
      rcases Al.find op h3 with ⟨g1, g2⟩ | ⟨φ, v, g1, g2, g3⟩
      · refine .inl ⟨by simp [asc, ho, g1], fun i => ?_⟩
        simp [Instr.findNow, Instr.sameNow, h1, hb, g2]
      · refine .inr ⟨φ, v, by simp [asc, ho, g1], g2, fun i => ?_⟩
        obtain ⟨j, hj⟩ := g3 (i + 1)
        exact ⟨j, by simp [Instr.findNow, Instr.sameNow, h1, hb, hj]⟩
  | [], _ :: _, h => h.elim
  | _ :: _, [], h => h.elim
theorem Tab.keep (hI : ∀ w w' f φ, CellsKept w w' → I w f φ → I w' f φ) {w w' : World} {b : Nat} {l : List (ByteArray × β)} (h : Tab I w b l) (hb : Below w.heap.size w w') : Tab I w' b l := by
  obtain ⟨arr, clock, h1, h2⟩ := h
  exact ⟨arr, clock, (hb.block b (Array.getElem?_eq_some_iff.1 h1).1).trans h1, h2.keep hI (.of_below hb)⟩
theorem tabNew (w : World) : Tab I (w.alloc (.map #[] 0)) w.heap.size [] := ⟨#[], 0, by show (w.heap.push _)[w.heap.size]? = _; simp, trivial⟩
theorem str9 : Tryz.prog.underlying 9 = some .string := Tryz.underlying9
theorem ins_tab (hI : ∀ w w' f φ, CellsKept w w' → I w f φ → I w' f φ) {T E : TypeId} {w : World} {b : Nat} {l : List (ByteArray × β)} (hT : Tryz.prog.underlying T = some (.map 9 E)) (h : Tab I w b l) {f : Value} {φ : β} (hf : I w f φ) {key : ByteArray} (hk : asc key l = none) :
    ∃ w1, (Instr.mapUpdate T (.map (some b)) (.string key) f).run Tryz.prog w = .ok () w1 ∧ Tab I w1 b (l ++ [(key, φ)]) ∧ Below b w w1 ∧ CellsKept w w1 := by
  obtain ⟨arr, clock, h1, h2⟩ := h
  have g : ∀ i, Instr.findNow .string (.string key) arr.toList i = some none := by
    rcases h2.find key with ⟨_, g2⟩ | ⟨φ, v, g1, _, _⟩
    · exact g2
    · rw [hk] at g1; cases g1
  have hlt := (Array.getElem?_eq_some_iff.1 h1).1
  have hne : ∀ k, k ≠ b → (w.heap.setIfInBounds b (.map (arr.push ⟨.string key, f, clock⟩) (clock + 1)))[k]? = w.heap[k]? := fun k hkb => by
    rw [Array.getElem?_setIfInBounds]; simp [Ne.symm hkb]
  have hck : CellsKept w { w with heap := w.heap.setIfInBounds b (.map (arr.push ⟨.string key, f, clock⟩) (clock + 1)) } := fun x c t z e => by
    have : x ≠ b := fun hx => by subst hx; rw [h1] at e; cases e
    exact (hne x this).trans e
  refine ⟨{ w with heap := w.heap.setIfInBounds b (.map (arr.push ⟨.string key, f, clock⟩) (clock + 1)) }, ?_, ⟨arr.push ⟨.string key, f, clock⟩, clock + 1, ?_, ?_⟩, ?_, hck⟩
  · simp [Instr.mapUpdate, Sem.run_bind, run_underlying hT, MapKept.run_getObj_map h1, MapKept.run_checkKey (k := .string key) str9 (by simp [IsKey]), MapKept.run_findKey str9 (g 0), MapKept.run_setObj_map _ h1, Result.andThen]
  · show (w.heap.setIfInBounds b _)[b]? = _
    rw [Array.getElem?_setIfInBounds]; simp [hlt]
  · rw [Array.toList_push]
    exact Al.push (hI _ _ _ _ hck hf) (h2.keep hI hck)
  · exact ⟨rfl, rfl, rfl, by simp, fun k hk => hne k (by omega)⟩
end
end Go.Proofs.YtaffplmfnincfaaGreatDoor
/- Values: the contracts of reckoned, compared, unlessNull, ofKind, twos, ones. -/
namespace Go.Proofs.YtaffplmfnincfaaGreatDoor
set_option linter.unusedVariables false
open Go.RowKit Go.MapKept
attribute [local go_sem ↓] Go.wp_at_zero Go.wp_at_succ
/-- A function of two operands, made by unlessNull. -/
def IsTwo (w : World) (f : Value) (φ : Vl → Vl → Vl) : Prop := ∃ p, f = .func (.func 259) #[] #[.pointer (some ⟨p, 0, none⟩)] ∧ ∀ W, CellsKept w W → ∀ a b, IsV a → IsV b →
  Calls Tryz.prog 259 #[vlV a, vlV b, .pointer (some ⟨p, 0, none⟩)] W fun e w' => e = .returned (vlV (φ a b)) ∧ Below W.heap.size W w'
end Go.Proofs.YtaffplmfnincfaaGreatDoor
