/- Vk; Vn. -/
import Derived.Test.YtaffplmfnincfaaGreatDoorViVj
import Derived.Carry
import Derived.MapKept
import Derived.OwnWalk
/- A map from texts to functions: what it holds, insert, look-up. -/
namespace Go.Proofs.YtaffplmfnincfaaGreatDoor
set_option linter.unusedVariables false
open Go.RowKit Go.MapKept
/-- Every row of cells is kept. -/
def CellsKept (w w' : World) : Prop := ∀ (x : Nat) (c : Array Value) (t : TypeId) (z : Nat × Nat), w.heap[x]? = some (.cells c t z) → w'.heap[x]? = some (.cells c t z)
theorem CellsKept.refl (w : World) : CellsKept w w := fun _ _ _ _ h => h
theorem CellsKept.trans {a b c : World} (h : CellsKept a b) (g : CellsKept b c) : CellsKept a c := fun x _ _ _ e => g x _ _ _ (h x _ _ _ e)
theorem CellsKept.of_below {w w' : World} (h : Below w.heap.size w w') : CellsKept w w' := fun x _ _ _ e => (h.block x (Array.getElem?_eq_some_iff.1 e).1).trans e
theorem CellsKept.cell {w w' : World} (h : CellsKept w w') {q : Addr} {u : Value} (e : w.cell? q = some u) : w'.cell? q = some u := by
  cases hb : w.heap[q.block]? with
  | none => simp [World.cell?, hb] at e
  | some o =>
    cases o with
    | cells c t z =>
      have h2 := h _ _ _ _ hb
      unfold World.cell? at e ⊢
      rw [hb] at e
      rw [h2]
      exact e
    | _ => simp [World.cell?, hb] at e
theorem ba_eq (a b : ByteArray) : (a == b) = decide (a = b) := by
  rw [Bool.eq_iff_iff, decide_eq_true_iff]; exact MapKept.bytes_beq a b
section
variable {β : Type} (I : World → Value → β → Prop)
/-- The entries are those of the list. -/
def Al (w : World) : List MapEntry → List (ByteArray × β) → Prop
  | [], [] => True
  | e :: es, p :: l => (e.key = .string p.1 ∧ I w e.val p.2) ∧ Al w es l
  | _, _ => False
/-- Block b is a map of just these. -/
def Tab (w : World) (b : Nat) (l : List (ByteArray × β)) : Prop := ∃ arr clock, w.heap[b]? = some (.map arr clock) ∧ Al I w arr.toList l
/-- What a text stands for. -/
def asc (op : ByteArray) : List (ByteArray × β) → Option β
  | [] => none
  | p :: l => if op = p.1 then some p.2 else asc op l
variable {I}
theorem Al.keep (hI : ∀ w w' f φ, CellsKept w w' → I w f φ → I w' f φ) {w w' : World} (hk : CellsKept w w') : ∀ {es : List MapEntry} {l : List (ByteArray × β)}, Al I w es l → Al I w' es l
  | [], [], _ => trivial
  | e :: es, p :: l, h => ⟨⟨h.1.1, hI _ _ _ _ hk h.1.2⟩, Al.keep hI hk h.2⟩
  | [], _ :: _, h => h.elim
  | _ :: _, [], h => h.elim
theorem Al.push {w : World} {f : Value} {φ : β} {key : ByteArray} {n : Nat} (hf : I w f φ) : ∀ {es : List MapEntry} {l : List (ByteArray × β)}, Al I w es l → Al I w (es ++ [⟨.string key, f, n⟩]) (l ++ [(key, φ)])
  | [], [], _ => ⟨⟨rfl, hf⟩, trivial⟩
  | e :: es, p :: l, h => ⟨h.1, Al.push hf h.2⟩
  | [], _ :: _, h => h.elim
  | _ :: _, [], h => h.elim
theorem Al.find (op : ByteArray) {w : World} : ∀ {es : List MapEntry} {l : List (ByteArray × β)}, Al I w es l →
    (asc op l = none ∧ ∀ i, Instr.findNow .string (.string op) es i = some none) ∨ (∃ φ v, asc op l = some φ ∧ I w v φ ∧ ∀ i, ∃ j, Instr.findNow .string (.string op) es i = some (some (j, v)))
  | [], [], _ => .inl ⟨rfl, fun _ => rfl⟩
  | e :: es, p :: l, h => by
    obtain ⟨⟨h1, h2⟩, h3⟩ := h
    by_cases ho : op = p.1
    · refine .inr ⟨p.2, e.val, by simp [asc, ho], h2, fun i => ⟨i, ?_⟩⟩
      simp [Instr.findNow, Instr.sameNow, h1, ho, ba_eq]
    · have hb : (op == p.1) = false := by rw [ba_eq]; simpa using ho
      rcases Al.find op h3 with ⟨g1, g2⟩ | ⟨φ, v, g1, g2, g3⟩
      · refine .inl ⟨by simp [asc, ho, g1], fun i => ?_⟩
        simp [Instr.findNow, Instr.sameNow, h1, hb, g2]
      · refine .inr ⟨φ, v, by simp [asc, ho, g1], g2, fun i => ?_⟩
        obtain ⟨j, hj⟩ := g3 (i + 1)
        exact ⟨j, by simp [Instr.findNow, Instr.sameNow, h1, hb, hj]⟩
  | [], _ :: _, h => h.elim
  | _ :: _, [], h => h.elim
theorem Tab.keep (hI : ∀ w w' f φ, CellsKept w w' → I w f φ → I w' f φ) {w w' : World} {b : Nat} {l : List (ByteArray × β)} (h : Tab I w b l) (hb : Below w.heap.size w w') : Tab I w' b l := by
  obtain ⟨arr, clock, h1, h2⟩ := h
  exact ⟨arr, clock, (hb.block b (Array.getElem?_eq_some_iff.1 h1).1).trans h1, h2.keep hI (.of_below hb)⟩
theorem tabNew (w : World) : Tab I (w.alloc (.map #[] 0)) w.heap.size [] := ⟨#[], 0, by show (w.heap.push _)[w.heap.size]? = _; simp, trivial⟩
theorem str9 : Tryz.prog.underlying 9 = some .string := Tryz.underlying9
theorem look_tab {T E : TypeId} {w : World} {b : Nat} {l : List (ByteArray × β)} (hT : Tryz.prog.underlying T = some (.map 9 E)) (hz : (zeroValue E).run Tryz.prog w = .ok .nilFunc w) (h : Tab I w b l) (op : ByteArray) :
    (asc op l = none ∧ (Instr.lookup T (.map (some b)) (.string op) true).run Tryz.prog w = .ok (.tuple #[.nilFunc, .bool false]) w) ∨
    (∃ φ v, asc op l = some φ ∧ I w v φ ∧ (Instr.lookup T (.map (some b)) (.string op) true).run Tryz.prog w = .ok (.tuple #[v, .bool true]) w) := by
  obtain ⟨arr, clock, h1, h2⟩ := h
  rcases h2.find op with ⟨g1, g2⟩ | ⟨φ, v, g1, g2, g3⟩
  · refine .inl ⟨g1, ?_⟩
    simp [Instr.lookup, Sem.run_bind, run_underlying hT, MapKept.run_getObj_map h1, MapKept.run_checkKey (k := .string op) str9 (by simp [IsKey]), MapKept.run_findKey str9 (g2 0), hz, Result.andThen]
  · refine .inr ⟨φ, v, g1, g2, ?_⟩
    obtain ⟨j, hj⟩ := g3 0
    simp [Instr.lookup, Sem.run_bind, run_underlying hT, MapKept.run_getObj_map h1, MapKept.run_checkKey (k := .string op) str9 (by simp [IsKey]), MapKept.run_findKey str9 hj, Result.andThen]
theorem ins_tab (hI : ∀ w w' f φ, CellsKept w w' → I w f φ → I w' f φ) {T E : TypeId} {w : World} {b : Nat} {l : List (ByteArray × β)} (hT : Tryz.prog.underlying T = some (.map 9 E)) (h : Tab I w b l) {f : Value} {φ : β} (hf : I w f φ) {key : ByteArray} (hk : asc key l = none) :
    ∃ w1, (Instr.mapUpdate T (.map (some b)) (.string key) f).run Tryz.prog w = .ok () w1 ∧ Tab I w1 b (l ++ [(key, φ)]) ∧ Below b w w1 ∧ CellsKept w w1 := by
  obtain ⟨arr, clock, h1, h2⟩ := h
  have g : ∀ i, Instr.findNow .string (.string key) arr.toList i = some none := by
    rcases h2.find key with ⟨_, g2⟩ | ⟨φ, v, g1, _, _⟩
    · exact g2
    · rw [hk] at g1; cases g1
  have hlt := (Array.getElem?_eq_some_iff.1 h1).1
  have hne : ∀ k, k ≠ b → (w.heap.setIfInBounds b (.map (arr.push ⟨.string key, f, clock⟩) (clock + 1)))[k]? = w.heap[k]? := fun k hkb => by
    rw [Array.getElem?_setIfInBounds]; simp [Ne.symm hkb]
  have hck : CellsKept w { w with heap := w.heap.setIfInBounds b (.map (arr.push ⟨.string key, f, clock⟩) (clock + 1)) } := fun x c t z e => by
    have : x ≠ b := fun hx => by subst hx; rw [h1] at e; cases e
    exact (hne x this).trans e
  refine ⟨{ w with heap := w.heap.setIfInBounds b (.map (arr.push ⟨.string key, f, clock⟩) (clock + 1)) }, ?_, ⟨arr.push ⟨.string key, f, clock⟩, clock + 1, ?_, ?_⟩, ?_, hck⟩
  · simp [Instr.mapUpdate, Sem.run_bind, run_underlying hT, MapKept.run_getObj_map h1, MapKept.run_checkKey (k := .string key) str9 (by simp [IsKey]), MapKept.run_findKey str9 (g 0), MapKept.run_setObj_map _ h1, Result.andThen]
  · show (w.heap.setIfInBounds b _)[b]? = _
    rw [Array.getElem?_setIfInBounds]; simp [hlt]
  · rw [Array.toList_push]
    exact Al.push (hI _ _ _ _ hck hf) (h2.keep hI hck)
  · exact ⟨rfl, rfl, rfl, by simp, fun k hk => hne k (by omega)⟩
/-- The insertion, for the walk. -/
theorem wpIns (hI : ∀ w w' f φ, CellsKept w w' → I w f φ → I w' f φ) {T E : TypeId} (hT : Tryz.prog.underlying T = some (.map 9 E)) {w : World} {ops : Array Oper} {rest : List Oper} {o : Oper} {a : Act} {Q : Exit → Act → World → Prop}
    (hg : o.guard = none) (m x v : Operand) (hop : o.op = Op.insert T m x v) {b : Nat} {l : List (ByteArray × β)} (h : Tab I w b l) {f : Value} {φ : β} (hf : I w f φ) {key : ByteArray} (hk : asc key l = none)
    (hm : a.eval m = .map (some b)) (hx : a.eval x = .string key) (hv : a.eval v = f)
    (hK : ∀ w1, Tab I w1 b (l ++ [(key, φ)]) → Below b w w1 → CellsKept w w1 → wpList Tryz.prog ops Q rest (a.put o.dst undef) w1) : wpList Tryz.prog ops Q (o :: rest) a w := by
  refine wpList_plain hg fun K' hK' => ?_
  obtain ⟨w', hrun, r1, r2, r3⟩ := ins_tab hI hT h hf hk
  unfold Oper.wp
  simp [execOp, hop, hm, hx, hv, hrun, Result.andThen]
  exact hK' _ _ (hK w' r1 r2 r3)
end
end Go.Proofs.YtaffplmfnincfaaGreatDoor
/- Values: the contracts of reckoned, compared, unlessNull, ofKind, twos, ones. -/
namespace Go.Proofs.YtaffplmfnincfaaGreatDoor
set_option linter.unusedVariables false
open Go.RowKit Go.MapKept
attribute [local go_sem ↓] Go.wp_at_zero Go.wp_at_succ
/-- A function of two operands, made by unlessNull. -/
def IsTwo (w : World) (f : Value) (φ : Vl → Vl → Vl) : Prop := ∃ p, f = .func (.func 259) #[] #[.pointer (some ⟨p, 0, none⟩)] ∧ ∀ W, CellsKept w W → ∀ a b, IsV a → IsV b →
  Calls Tryz.prog 259 #[vlV a, vlV b, .pointer (some ⟨p, 0, none⟩)] W fun e w' => e = .returned (vlV (φ a b)) ∧ Below W.heap.size W w'
theorem IsTwo.keep (w w' : World) (f : Value) (φ : Vl → Vl → Vl) (hk : CellsKept w w') (h : IsTwo w f φ) : IsTwo w' f φ := by
  obtain ⟨p, h1, h2⟩ := h
  exact ⟨p, h1, fun W hW => h2 W (hk.trans hW)⟩
theorem noB_iff (a b : Vl) : noB a b = true ↔ a.kind = 3 ∨ b.kind = 3 := by simp [noB]
theorem ordy_of {a b : Vl} (h1 : ¬ (a.kind = 2 ∨ b.kind = 2)) (h2 : noB a b = false) : Ordy a ∧ Ordy b := by
  have h3 : ¬ (a.kind = 3 ∨ b.kind = 3) := fun h => by rw [(noB_iff a b).2 h] at h2; cases h2
  exact ⟨⟨fun h => h1 (.inl h), fun h => h3 (.inl h)⟩, ⟨fun h => h1 (.inr h), fun h => h3 (.inr h)⟩⟩
theorem nans_is (a b v : Vl) : nulls a b (if noB a b = true then nan else v) = nans a b v := by
  unfold nans
  congr 1
  by_cases h : a.kind = 3 ∨ b.kind = 3
  · rw [if_pos h, if_pos ((noB_iff a b).2 h)]
  · rw [if_neg h, if_neg (fun e => h ((noB_iff a b).1 e))]
theorem below2 (w : World) (o p : Obj) : Below w.heap.size w ((w.alloc o).alloc p) := (bW0 w o).alloc (by simp) p
theorem below3 (w : World) (o p q : Obj) : Below w.heap.size w (((w.alloc o).alloc p).alloc q) := (below2 w o p).alloc (by simp; omega) q
theorem cell1 (w : World) (v : Value) (t : TypeId) : (w.alloc (.cells #[v] t)).cell? ⟨w.heap.size, 0, none⟩ = some v := by
  have h : (w.alloc (.cells #[v] t)).heap[w.heap.size]? = some (.cells #[v] t) := by show (w.heap.push _)[w.heap.size]? = _; simp
  unfold World.cell?
  rw [h]
  simp
theorem cell1' (w : World) (o : Obj) (v : Value) (t : TypeId) : ((w.alloc o).alloc (.cells #[v] t)).cell? ⟨w.heap.size + 1, 0, none⟩ = some v := by
  have := cell1 (w.alloc o) v t
  rwa [World.size_alloc] at this
theorem cell1'' (w : World) (o p : Obj) (v : Value) (t : TypeId) : (((w.alloc o).alloc p).alloc (.cells #[v] t)).cell? ⟨w.heap.size + 1 + 1, 0, none⟩ = some v := by
  have := cell1' (w.alloc o) p v t
  rwa [World.size_alloc] at this
set_option maxRecDepth 100000 in
theorem mk_51 (w : World) : Calls Tryz.prog 221 #[.func (.func 222) #[] #[]] w fun e w' => ∃ f, e = .returned f ∧ IsTwo w' f addV ∧ Below w.heap.size w w' := by
  go_enter Tryz.func221, Tryz.ntmps221
  go_wp2
  go_ret
  refine ⟨_, rfl, ⟨w.heap.size + 1, rfl, fun W hW a b hva hvb => ?_⟩, below2 w _ _⟩
  have c1 := hW.cell (cell1' w (.cells #[.func (.func 222) #[] #[]] 215) (.func (.func 254) #[] #[.pointer (some ⟨w.heap.size, 0, none⟩)]) 215)
  have c0 := hW.cell (keepC (cell1 w (.func (.func 222) #[] #[]) 215) ((Below.refl _ _).alloc (Nat.le_refl _) (.cells #[.func (.func 254) #[] #[.pointer (some ⟨w.heap.size, 0, none⟩)]] 215)))
  have h := unl_81 a b (w.heap.size + 1) w.heap.size (if noB a b = true then nan else (add) a b) W c1 (fun hnn W2 hW2 => rec_51 a b w.heap.size ((add) a b) W2 (keepC c0 hW2) (fun hno W3 => by
    obtain ⟨oa, ob⟩ := ordy_of hnn hno
    exact sum_any a b hva hvb oa ob W3))
  rw [nans_is] at h
  exact h
set_option maxRecDepth 100000 in
theorem mk_52 (w : World) : Calls Tryz.prog 221 #[.func (.func 223) #[] #[]] w fun e w' => ∃ f, e = .returned f ∧ IsTwo w' f subV ∧ Below w.heap.size w w' := by
  go_enter Tryz.func221, Tryz.ntmps221
  go_wp2
  go_ret
  refine ⟨_, rfl, ⟨w.heap.size + 1, rfl, fun W hW a b hva hvb => ?_⟩, below2 w _ _⟩
  have c1 := hW.cell (cell1' w (.cells #[.func (.func 223) #[] #[]] 215) (.func (.func 254) #[] #[.pointer (some ⟨w.heap.size, 0, none⟩)]) 215)
  have c0 := hW.cell (keepC (cell1 w (.func (.func 223) #[] #[]) 215) ((Below.refl _ _).alloc (Nat.le_refl _) (.cells #[.func (.func 254) #[] #[.pointer (some ⟨w.heap.size, 0, none⟩)]] 215)))
  have h := unl_81 a b (w.heap.size + 1) w.heap.size (if noB a b = true then nan else (fun a b => add a (neg b)) a b) W c1 (fun hnn W2 hW2 => rec_52 a b w.heap.size ((fun a b => add a (neg b)) a b) W2 (keepC c0 hW2) (fun hno W3 => by
    obtain ⟨oa, ob⟩ := ordy_of hnn hno
    exact minus_any2 a b hva hvb oa ob W3))
  rw [nans_is] at h
  exact h
set_option maxRecDepth 100000 in
theorem mk_53 (w : World) : Calls Tryz.prog 221 #[.func (.func 224) #[] #[]] w fun e w' => ∃ f, e = .returned f ∧ IsTwo w' f mulV ∧ Below w.heap.size w w' := by
  go_enter Tryz.func221, Tryz.ntmps221
  go_wp2
  go_ret
  refine ⟨_, rfl, ⟨w.heap.size + 1, rfl, fun W hW a b hva hvb => ?_⟩, below2 w _ _⟩
  have c1 := hW.cell (cell1' w (.cells #[.func (.func 224) #[] #[]] 215) (.func (.func 254) #[] #[.pointer (some ⟨w.heap.size, 0, none⟩)]) 215)
  have c0 := hW.cell (keepC (cell1 w (.func (.func 224) #[] #[]) 215) ((Below.refl _ _).alloc (Nat.le_refl _) (.cells #[.func (.func 254) #[] #[.pointer (some ⟨w.heap.size, 0, none⟩)]] 215)))
  have h := unl_81 a b (w.heap.size + 1) w.heap.size (if noB a b = true then nan else (mul) a b) W c1 (fun hnn W2 hW2 => rec_53 a b w.heap.size ((mul) a b) W2 (keepC c0 hW2) (fun hno W3 => by
    obtain ⟨oa, ob⟩ := ordy_of hnn hno
    exact product_any a b hva hvb W3))
  rw [nans_is] at h
  exact h
set_option maxRecDepth 100000 in
theorem mk_54 (w : World) : Calls Tryz.prog 221 #[.func (.func 225) #[] #[]] w fun e w' => ∃ f, e = .returned f ∧ IsTwo w' f divV ∧ Below w.heap.size w w' := by
  go_enter Tryz.func221, Tryz.ntmps221
  go_wp2
  go_ret
  refine ⟨_, rfl, ⟨w.heap.size + 1, rfl, fun W hW a b hva hvb => ?_⟩, below2 w _ _⟩
  have c1 := hW.cell (cell1' w (.cells #[.func (.func 225) #[] #[]] 215) (.func (.func 254) #[] #[.pointer (some ⟨w.heap.size, 0, none⟩)]) 215)
  have c0 := hW.cell (keepC (cell1 w (.func (.func 225) #[] #[]) 215) ((Below.refl _ _).alloc (Nat.le_refl _) (.cells #[.func (.func 254) #[] #[.pointer (some ⟨w.heap.size, 0, none⟩)]] 215)))
  have h := unl_81 a b (w.heap.size + 1) w.heap.size (if noB a b = true then nan else (dvd) a b) W c1 (fun hnn W2 hW2 => rec_54 a b w.heap.size ((dvd) a b) W2 (keepC c0 hW2) (fun hno W3 => by
    obtain ⟨oa, ob⟩ := ordy_of hnn hno
    exact quotient_any a b hva hvb oa ob W3))
  rw [nans_is] at h
  exact h
theorem cmp_eq {a b : Vl} (ha : IsV a) (hb : IsV b) : nulls a b (tru (if noB a b = true then false else (ordI a b == 0))) = eqV a b := by
  by_cases h1 : a.kind = 2 ∨ b.kind = 2
  · simp [eqV, nulls, h1]
  · cases h2 : noB a b
    · obtain ⟨oa, ob⟩ := ordy_of h1 h2
      rw [eqV_place ha hb oa ob, nulls_ordy oa ob]
      simp only [Bool.false_eq_true, if_false]
      congr 1
      unfold ordI
      rw [Bool.eq_iff_iff]; simp; omega
    · simp [eqV, nulls, h1, h2]
theorem cmp_ne {a b : Vl} (ha : IsV a) (hb : IsV b) : nulls a b (tru (if noB a b = true then true else (ordI a b != 0))) = neV a b := by
  by_cases h1 : a.kind = 2 ∨ b.kind = 2
  · simp [neV, nulls, h1]
  · cases h2 : noB a b
    · obtain ⟨oa, ob⟩ := ordy_of h1 h2
      rw [neV_place ha hb oa ob, nulls_ordy oa ob]
      simp only [Bool.false_eq_true, if_false]
      congr 1
      unfold ordI
      rw [Bool.eq_iff_iff]; simp; omega
    · simp [neV, nulls, h1, h2]
theorem cmp_lt {a b : Vl} (ha : IsV a) (hb : IsV b) : nulls a b (tru (if noB a b = true then false else (decide (ordI a b < 0)))) = ltV a b := by
  by_cases h1 : a.kind = 2 ∨ b.kind = 2
  · simp [ltV, nulls, h1]
  · cases h2 : noB a b
    · obtain ⟨oa, ob⟩ := ordy_of h1 h2
      rw [ltV_place ha hb oa ob, nulls_ordy oa ob]
      simp only [Bool.false_eq_true, if_false]
      congr 1
      unfold ordI
      rw [Bool.eq_iff_iff]; simp; split <;> (try split) <;> omega
    · simp [ltV, nulls, h1, h2]
theorem cmp_le {a b : Vl} (ha : IsV a) (hb : IsV b) : nulls a b (tru (if noB a b = true then false else (decide (ordI a b ≤ 0)))) = leV a b := by
  by_cases h1 : a.kind = 2 ∨ b.kind = 2
  · simp [leV, nulls, h1]
  · cases h2 : noB a b
    · obtain ⟨oa, ob⟩ := ordy_of h1 h2
      rw [leV_place ha hb oa ob, nulls_ordy oa ob]
      simp only [Bool.false_eq_true, if_false]
      congr 1
      unfold ordI
      rw [Bool.eq_iff_iff]; simp; split <;> (try split) <;> omega
    · simp [leV, nulls, h1, h2]
theorem cmp_gt {a b : Vl} (ha : IsV a) (hb : IsV b) : nulls a b (tru (if noB a b = true then false else (decide (0 < ordI a b)))) = gtV a b := by
  by_cases h1 : a.kind = 2 ∨ b.kind = 2
  · simp [gtV, nulls, h1]
  · cases h2 : noB a b
    · obtain ⟨oa, ob⟩ := ordy_of h1 h2
      rw [gtV_place ha hb oa ob, nulls_ordy oa ob]
      simp only [Bool.false_eq_true, if_false]
      congr 1
      unfold ordI
      rw [Bool.eq_iff_iff]; simp; split <;> (try split) <;> omega
    · simp [gtV, nulls, h1, h2]
theorem cmp_ge {a b : Vl} (ha : IsV a) (hb : IsV b) : nulls a b (tru (if noB a b = true then false else (decide (0 ≤ ordI a b)))) = geV a b := by
  by_cases h1 : a.kind = 2 ∨ b.kind = 2
  · simp [geV, nulls, h1]
  · cases h2 : noB a b
    · obtain ⟨oa, ob⟩ := ordy_of h1 h2
      rw [geV_place ha hb oa ob, nulls_ordy oa ob]
      simp only [Bool.false_eq_true, if_false]
      congr 1
      unfold ordI
      rw [Bool.eq_iff_iff]; simp; split <;> (try split) <;> omega
    · simp [geV, nulls, h1, h2]
set_option maxRecDepth 100000 in
theorem mk_56 (w : World) : Calls Tryz.prog 226 #[.bool false, .func (.func 227) #[] #[]] w fun e w' => ∃ f, e = .returned f ∧ IsTwo w' f eqV ∧ Below w.heap.size w w' := by
  go_enter Tryz.func226, Tryz.ntmps226
  go_wp2
  go_ret
  refine ⟨_, rfl, ⟨w.heap.size + 1 + 1, rfl, fun W hW a b hva hvb => ?_⟩, below3 w _ _ _⟩
  have c2 := hW.cell (cell1'' w (.cells #[.bool false] 4) (.cells #[.func (.func 227) #[] #[]] 231) (.func (.func 257) #[] #[.pointer (some ⟨w.heap.size, 0, none⟩), .pointer (some ⟨w.heap.size + 1, 0, none⟩)]) 215)
  have c1 := hW.cell (keepC (cell1' w (.cells #[.bool false] 4) (.func (.func 227) #[] #[]) 231) ((Below.refl _ _).alloc (Nat.le_refl _) (.cells #[.func (.func 257) #[] #[.pointer (some ⟨w.heap.size, 0, none⟩), .pointer (some ⟨w.heap.size + 1, 0, none⟩)]] 215)))
  have c0 := hW.cell (keepC (cell1 w (.bool false) 4) (below2 _ (.cells #[.func (.func 227) #[] #[]] 231) (.cells #[.func (.func 257) #[] #[.pointer (some ⟨w.heap.size, 0, none⟩), .pointer (some ⟨w.heap.size + 1, 0, none⟩)]] 215)))
  have h := unl_84 a b (w.heap.size + 1 + 1) w.heap.size (w.heap.size + 1) (tru (if noB a b = true then false else (ordI a b == 0))) W c2 (fun hnn W2 hW2 => cmp_56 a b w.heap.size (w.heap.size + 1) false W2 (keepC c0 hW2) (keepC c1 hW2) (fun hno W3 => by
    obtain ⟨oa, ob⟩ := ordy_of hnn hno
    exact order_any a b hva hvb oa ob W3))
  rw [cmp_eq hva hvb] at h
  exact h
set_option maxRecDepth 100000 in
theorem mk_57 (w : World) : Calls Tryz.prog 226 #[.bool true, .func (.func 228) #[] #[]] w fun e w' => ∃ f, e = .returned f ∧ IsTwo w' f neV ∧ Below w.heap.size w w' := by
  go_enter Tryz.func226, Tryz.ntmps226
  go_wp2
  go_ret
  refine ⟨_, rfl, ⟨w.heap.size + 1 + 1, rfl, fun W hW a b hva hvb => ?_⟩, below3 w _ _ _⟩
  have c2 := hW.cell (cell1'' w (.cells #[.bool true] 4) (.cells #[.func (.func 228) #[] #[]] 231) (.func (.func 257) #[] #[.pointer (some ⟨w.heap.size, 0, none⟩), .pointer (some ⟨w.heap.size + 1, 0, none⟩)]) 215)
  have c1 := hW.cell (keepC (cell1' w (.cells #[.bool true] 4) (.func (.func 228) #[] #[]) 231) ((Below.refl _ _).alloc (Nat.le_refl _) (.cells #[.func (.func 257) #[] #[.pointer (some ⟨w.heap.size, 0, none⟩), .pointer (some ⟨w.heap.size + 1, 0, none⟩)]] 215)))
  have c0 := hW.cell (keepC (cell1 w (.bool true) 4) (below2 _ (.cells #[.func (.func 228) #[] #[]] 231) (.cells #[.func (.func 257) #[] #[.pointer (some ⟨w.heap.size, 0, none⟩), .pointer (some ⟨w.heap.size + 1, 0, none⟩)]] 215)))
  have h := unl_84 a b (w.heap.size + 1 + 1) w.heap.size (w.heap.size + 1) (tru (if noB a b = true then true else (ordI a b != 0))) W c2 (fun hnn W2 hW2 => cmp_57 a b w.heap.size (w.heap.size + 1) true W2 (keepC c0 hW2) (keepC c1 hW2) (fun hno W3 => by
    obtain ⟨oa, ob⟩ := ordy_of hnn hno
    exact order_any a b hva hvb oa ob W3))
  rw [cmp_ne hva hvb] at h
  exact h
set_option maxRecDepth 100000 in
theorem mk_58 (w : World) : Calls Tryz.prog 226 #[.bool false, .func (.func 229) #[] #[]] w fun e w' => ∃ f, e = .returned f ∧ IsTwo w' f ltV ∧ Below w.heap.size w w' := by
  go_enter Tryz.func226, Tryz.ntmps226
  go_wp2
  go_ret
  refine ⟨_, rfl, ⟨w.heap.size + 1 + 1, rfl, fun W hW a b hva hvb => ?_⟩, below3 w _ _ _⟩
  have c2 := hW.cell (cell1'' w (.cells #[.bool false] 4) (.cells #[.func (.func 229) #[] #[]] 231) (.func (.func 257) #[] #[.pointer (some ⟨w.heap.size, 0, none⟩), .pointer (some ⟨w.heap.size + 1, 0, none⟩)]) 215)
  have c1 := hW.cell (keepC (cell1' w (.cells #[.bool false] 4) (.func (.func 229) #[] #[]) 231) ((Below.refl _ _).alloc (Nat.le_refl _) (.cells #[.func (.func 257) #[] #[.pointer (some ⟨w.heap.size, 0, none⟩), .pointer (some ⟨w.heap.size + 1, 0, none⟩)]] 215)))
  have c0 := hW.cell (keepC (cell1 w (.bool false) 4) (below2 _ (.cells #[.func (.func 229) #[] #[]] 231) (.cells #[.func (.func 257) #[] #[.pointer (some ⟨w.heap.size, 0, none⟩), .pointer (some ⟨w.heap.size + 1, 0, none⟩)]] 215)))
  have h := unl_84 a b (w.heap.size + 1 + 1) w.heap.size (w.heap.size + 1) (tru (if noB a b = true then false else (decide (ordI a b < 0)))) W c2 (fun hnn W2 hW2 => cmp_58 a b w.heap.size (w.heap.size + 1) false W2 (keepC c0 hW2) (keepC c1 hW2) (fun hno W3 => by
    obtain ⟨oa, ob⟩ := ordy_of hnn hno
    exact order_any a b hva hvb oa ob W3))
  rw [cmp_lt hva hvb] at h
  exact h
set_option maxRecDepth 100000 in
theorem mk_59 (w : World) : Calls Tryz.prog 226 #[.bool false, .func (.func 230) #[] #[]] w fun e w' => ∃ f, e = .returned f ∧ IsTwo w' f leV ∧ Below w.heap.size w w' := by
  go_enter Tryz.func226, Tryz.ntmps226
  go_wp2
  go_ret
  refine ⟨_, rfl, ⟨w.heap.size + 1 + 1, rfl, fun W hW a b hva hvb => ?_⟩, below3 w _ _ _⟩
  have c2 := hW.cell (cell1'' w (.cells #[.bool false] 4) (.cells #[.func (.func 230) #[] #[]] 231) (.func (.func 257) #[] #[.pointer (some ⟨w.heap.size, 0, none⟩), .pointer (some ⟨w.heap.size + 1, 0, none⟩)]) 215)
  have c1 := hW.cell (keepC (cell1' w (.cells #[.bool false] 4) (.func (.func 230) #[] #[]) 231) ((Below.refl _ _).alloc (Nat.le_refl _) (.cells #[.func (.func 257) #[] #[.pointer (some ⟨w.heap.size, 0, none⟩), .pointer (some ⟨w.heap.size + 1, 0, none⟩)]] 215)))
  have c0 := hW.cell (keepC (cell1 w (.bool false) 4) (below2 _ (.cells #[.func (.func 230) #[] #[]] 231) (.cells #[.func (.func 257) #[] #[.pointer (some ⟨w.heap.size, 0, none⟩), .pointer (some ⟨w.heap.size + 1, 0, none⟩)]] 215)))
  have h := unl_84 a b (w.heap.size + 1 + 1) w.heap.size (w.heap.size + 1) (tru (if noB a b = true then false else (decide (ordI a b ≤ 0)))) W c2 (fun hnn W2 hW2 => cmp_59 a b w.heap.size (w.heap.size + 1) false W2 (keepC c0 hW2) (keepC c1 hW2) (fun hno W3 => by
    obtain ⟨oa, ob⟩ := ordy_of hnn hno
    exact order_any a b hva hvb oa ob W3))
  rw [cmp_le hva hvb] at h
  exact h
set_option maxRecDepth 100000 in
theorem mk_60 (w : World) : Calls Tryz.prog 226 #[.bool false, .func (.func 231) #[] #[]] w fun e w' => ∃ f, e = .returned f ∧ IsTwo w' f gtV ∧ Below w.heap.size w w' := by
  go_enter Tryz.func226, Tryz.ntmps226
  go_wp2
  go_ret
  refine ⟨_, rfl, ⟨w.heap.size + 1 + 1, rfl, fun W hW a b hva hvb => ?_⟩, below3 w _ _ _⟩
  have c2 := hW.cell (cell1'' w (.cells #[.bool false] 4) (.cells #[.func (.func 231) #[] #[]] 231) (.func (.func 257) #[] #[.pointer (some ⟨w.heap.size, 0, none⟩), .pointer (some ⟨w.heap.size + 1, 0, none⟩)]) 215)
  have c1 := hW.cell (keepC (cell1' w (.cells #[.bool false] 4) (.func (.func 231) #[] #[]) 231) ((Below.refl _ _).alloc (Nat.le_refl _) (.cells #[.func (.func 257) #[] #[.pointer (some ⟨w.heap.size, 0, none⟩), .pointer (some ⟨w.heap.size + 1, 0, none⟩)]] 215)))
  have c0 := hW.cell (keepC (cell1 w (.bool false) 4) (below2 _ (.cells #[.func (.func 231) #[] #[]] 231) (.cells #[.func (.func 257) #[] #[.pointer (some ⟨w.heap.size, 0, none⟩), .pointer (some ⟨w.heap.size + 1, 0, none⟩)]] 215)))
  have h := unl_84 a b (w.heap.size + 1 + 1) w.heap.size (w.heap.size + 1) (tru (if noB a b = true then false else (decide (0 < ordI a b)))) W c2 (fun hnn W2 hW2 => cmp_60 a b w.heap.size (w.heap.size + 1) false W2 (keepC c0 hW2) (keepC c1 hW2) (fun hno W3 => by
    obtain ⟨oa, ob⟩ := ordy_of hnn hno
    exact order_any a b hva hvb oa ob W3))
  rw [cmp_gt hva hvb] at h
  exact h
set_option maxRecDepth 100000 in
theorem mk_61 (w : World) : Calls Tryz.prog 226 #[.bool false, .func (.func 232) #[] #[]] w fun e w' => ∃ f, e = .returned f ∧ IsTwo w' f geV ∧ Below w.heap.size w w' := by
  go_enter Tryz.func226, Tryz.ntmps226
  go_wp2
  go_ret
  refine ⟨_, rfl, ⟨w.heap.size + 1 + 1, rfl, fun W hW a b hva hvb => ?_⟩, below3 w _ _ _⟩
  have c2 := hW.cell (cell1'' w (.cells #[.bool false] 4) (.cells #[.func (.func 232) #[] #[]] 231) (.func (.func 257) #[] #[.pointer (some ⟨w.heap.size, 0, none⟩), .pointer (some ⟨w.heap.size + 1, 0, none⟩)]) 215)
  have c1 := hW.cell (keepC (cell1' w (.cells #[.bool false] 4) (.func (.func 232) #[] #[]) 231) ((Below.refl _ _).alloc (Nat.le_refl _) (.cells #[.func (.func 257) #[] #[.pointer (some ⟨w.heap.size, 0, none⟩), .pointer (some ⟨w.heap.size + 1, 0, none⟩)]] 215)))
  have c0 := hW.cell (keepC (cell1 w (.bool false) 4) (below2 _ (.cells #[.func (.func 232) #[] #[]] 231) (.cells #[.func (.func 257) #[] #[.pointer (some ⟨w.heap.size, 0, none⟩), .pointer (some ⟨w.heap.size + 1, 0, none⟩)]] 215)))
  have h := unl_84 a b (w.heap.size + 1 + 1) w.heap.size (w.heap.size + 1) (tru (if noB a b = true then false else (decide (0 ≤ ordI a b)))) W c2 (fun hnn W2 hW2 => cmp_61 a b w.heap.size (w.heap.size + 1) false W2 (keepC c0 hW2) (keepC c1 hW2) (fun hno W3 => by
    obtain ⟨oa, ob⟩ := ordy_of hnn hno
    exact order_any a b hva hvb oa ob W3))
  rw [cmp_ge hva hvb] at h
  exact h
set_option maxRecDepth 100000 in
theorem mk_63 (w : World) : Calls Tryz.prog 233 #[.func (.func 234) #[] #[]] w fun e w' => ∃ f, e = .returned f ∧ IsTwo w' f andV ∧ Below w.heap.size w w' := by
  go_enter Tryz.func233, Tryz.ntmps233
  go_wp2
  go_ret
  refine ⟨_, rfl, ⟨w.heap.size, rfl, fun W hW a b hva hvb => ?_⟩, bW0 w _⟩
  have c0 := hW.cell (cell1 w (.func (.func 234) #[] #[]) 215)
  exact unl_63 a b w.heap.size (tru (truB a && truB b)) W c0 (fun hnn W2 hW2 => and_any a b hva hvb W2)
set_option maxRecDepth 100000 in
theorem mk_64 (w : World) : Calls Tryz.prog 233 #[.func (.func 236) #[] #[]] w fun e w' => ∃ f, e = .returned f ∧ IsTwo w' f orV ∧ Below w.heap.size w w' := by
  go_enter Tryz.func233, Tryz.ntmps233
  go_wp2
  go_ret
  refine ⟨_, rfl, ⟨w.heap.size, rfl, fun W hW a b hva hvb => ?_⟩, bW0 w _⟩
  have c0 := hW.cell (cell1 w (.func (.func 236) #[] #[]) 215)
  exact unl_64 a b w.heap.size (tru (truB a || truB b)) W c0 (fun hnn W2 hW2 => or_any a b hva hvb W2)
end Go.Proofs.YtaffplmfnincfaaGreatDoor
