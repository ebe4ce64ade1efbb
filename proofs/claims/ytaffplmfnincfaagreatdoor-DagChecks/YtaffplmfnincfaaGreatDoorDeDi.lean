/- De; Df; Dg; Dh; Di. -/
import Derived.Test.YtaffplmfnincfaaGreatDoorDaDd
import Derived.Laws.OwnMore
import Derived.Maps.OwnSet
/- delete of a map; a row that loses its last. -/
namespace Go.Proofs.YtaffplmfnincfaaGreatDoor
set_option linter.unusedVariables false
open Go.RowKit
/-- The list without the first of this name. -/
def dropK {β : Type} (op : ByteArray) : List (ByteArray × β) → List (ByteArray × β)
  | [] => []
  | p :: l => if op = p.1 then l else p :: dropK op l
theorem dropK_len {β : Type} {op : ByteArray} {φ : β} : ∀ {l : List (ByteArray × β)}, asc op l = some φ → (dropK op l).length + 1 = l.length
  | [], h => by cases h
  | p :: l, h => by
    unfold asc at h
    unfold dropK
    by_cases ho : op = p.1
    · rw [if_pos ho]; rfl
    · rw [if_neg ho] at h ⊢
      have := dropK_len h
      simp; omega
theorem Al.del {β : Type} {I : World → Value → β → Prop} (op : ByteArray) {φ : β} {w : World} : ∀ {es : List MapEntry} {l : List (ByteArray × β)}, Al I w es l → asc op l = some φ → ∃ j v, j < es.length ∧ (∀ i, Instr.findNow .string (.string op) es i = some (some (i + j, v))) ∧ Al I w (es.eraseIdx j) (dropK op l)
  | [], [], _, h => by cases h
  | e :: es, p :: l, h, g => by
    obtain ⟨⟨h1, h2⟩, h3⟩ := h
    unfold asc at g
    by_cases ho : op = p.1
    · refine ⟨0, e.val, by simp, fun i => ?_, ?_⟩
      · simp [Instr.findNow, Instr.sameNow, h1, ho, ba_eq]
      · unfold dropK
        rw [if_pos ho]
        exact h3
    · have hb : (op == p.1) = false := by rw [ba_eq]; simpa using ho
      rw [if_neg ho] at g
      obtain ⟨j, v, k1, k2, k3⟩ := Al.del op h3 g
      refine ⟨j + 1, v, by simp; omega, fun i => ?_, ?_⟩
      · have := k2 (i + 1)
        simp [Instr.findNow, Instr.sameNow, h1, hb, this]
        omega
      · unfold dropK
        rw [if_neg ho]
        exact ⟨⟨h1, h2⟩, k3⟩
  | [], _ :: _, h, _ => h.elim
  | _ :: _, [], h, _ => h.elim
theorem del_tab {β : Type} {I : World → Value → β → Prop} (hI : ∀ w w' f φ, CellsKept w w' → I w f φ → I w' f φ) {T E ty : TypeId} {w : World} {b : Nat} {l : List (ByteArray × β)} (hT : Tryz.prog.underlying T = some (.map 9 E)) (h : Tab I w b l) {φ : β} {key : ByteArray} (hk : asc key l = some φ) :
    ∃ w1, (Builtin.delete_ #[T, 9] ty #[.map (some b), .string key]).run Tryz.prog w = .ok (.tuple #[]) w1 ∧ Tab I w1 b (dropK key l) ∧ Below b w w1 ∧ CellsKept w w1 ∧ w.grownBy w1 (some b) := by
  obtain ⟨arr, clock, h1, h2⟩ := h
  obtain ⟨j, v, hj, g, hA⟩ := h2.del key hk
  have hlt := (Array.getElem?_eq_some_iff.1 h1).1
  have hsub : (arr.eraseIdxIfInBounds j).toList = arr.toList.eraseIdx j := by
    unfold Array.eraseIdxIfInBounds
    rw [dif_pos (by simpa using hj)]
    simp
  have hne : ∀ k, k ≠ b → (w.heap.setIfInBounds b (.map (arr.eraseIdxIfInBounds j) clock))[k]? = w.heap[k]? := fun k hkb => by
    rw [Array.getElem?_setIfInBounds]; simp [Ne.symm hkb]
  have hck : CellsKept w { w with heap := w.heap.setIfInBounds b (.map (arr.eraseIdxIfInBounds j) clock) } := fun x c t z e => by
    have : x ≠ b := fun hx => by subst hx; rw [h1] at e; cases e
    exact (hne x this).trans e
  have hf := g 0
  rw [Nat.zero_add] at hf
  refine ⟨{ w with heap := w.heap.setIfInBounds b (.map (arr.eraseIdxIfInBounds j) clock) }, ?_, ⟨arr.eraseIdxIfInBounds j, clock, ?_, ?_⟩, ?_, hck, ?_⟩
  · simp [Builtin.delete_, Sem.run_bind, run_underlying hT, MapKept.run_getObj_map h1, MapKept.run_checkKey (k := .string key) str9 (by simp [MapKept.IsKey]), MapKept.run_findKey str9 hf, MapKept.run_setObj_map _ h1, Result.andThen]
  · show (w.heap.setIfInBounds b _)[b]? = _
    rw [Array.getElem?_setIfInBounds]; simp [hlt]
  · rw [hsub]
    exact hA.keep hI hck
  · exact ⟨rfl, rfl, rfl, by simp, fun k hk => hne k (by omega)⟩
  · exact ⟨rfl, rfl, rfl, by simp, fun k _ hk => hne k (fun e => hk (by rw [e]))⟩
theorem wpDel {β : Type} {I : World → Value → β → Prop} (hI : ∀ w w' f φ, CellsKept w w' → I w f φ → I w' f φ) {T E : TypeId} (hT : Tryz.prog.underlying T = some (.map 9 E)) {w : World} {ops : Array Oper} {rest : List Oper} {o : Oper} {a : Act} {Q : Exit → Act → World → Prop}
    (hg : o.guard = none) (m x : Operand) (hop : o.op = Op.call { callee := Callee.builtin Builtin.delete, args := #[m, x], argTypes := #[T, 9] }) {b : Nat} {l : List (ByteArray × β)} (h : Tab I w b l) {φ : β} {key : ByteArray} (hk : asc key l = some φ)
    (hm : a.eval m = .map (some b)) (hx : a.eval x = .string key)
    (hK : ∀ w1, Tab I w1 b (dropK key l) → Below b w w1 → CellsKept w w1 → w.grownBy w1 (some b) → wpList Tryz.prog ops Q rest (a.put o.dst (.tuple #[])) w1) : wpList Tryz.prog ops Q (o :: rest) a w := by
  refine wpList_plain hg fun K' hK' => ?_
  obtain ⟨w', hrun, r1, r2, r3, r4⟩ := del_tab (ty := o.type) hI hT h hk
  unfold Oper.wp
  simp [execOp, hop, resolve, invoke, builtin, hm, hx, hrun, Result.andThen]
  exact hK' _ _ (hK w' r1 r2 r3 r4)
/-- A row of texts of one's own that loses its last. -/
theorem OwnT.pop {w : World} {base : Nat} {a : Option Addr} {n c : Nat} {L : List ByteArray} {x : ByteArray} (h : OwnT w base (.slice a n c) (L ++ [x])) : OwnT w base (.slice a (n - 1) c) L := by
  obtain ⟨h1, h2⟩ := h
  have hfl : ∀ M : List ByteArray, (flat encS M).length = M.length := fun M => by
    induction M with
    | nil => rfl
    | cons y r ih => simp [flat, encS] at ih ⊢; omega
  have hap : flat encS (L ++ [x]) = flat encS L ++ [.string x] := by simp [flat, encS]
  rcases h2 with ⟨e, h0⟩ | ⟨g, cap, cur, e, hb, hg, hnc, hcm, hcs, htk⟩
  · simp at h0
  · injection e with e1 e2 e3
    subst e1 e2 e3
    have hL : (L ++ [x]).length - 1 = L.length := by simp
    refine ⟨by rw [hfl]; simp [encS], .inr ⟨g, c, cur, by rw [hL], hb, hg, ?_, hcm, hcs, ?_⟩⟩
    · simp at hnc; omega
    · have hk : encS.k = 1 := rfl
      rw [hk, Nat.mul_one] at htk ⊢
      rw [hap] at htk
      have := congrArg (List.take L.length) htk
      rw [List.take_take, Nat.min_eq_left (by simp), List.take_left' (hfl L)] at this
      exact this
/-- A row of one text that is one's own. -/
theorem own_one (w : World) (base : Nat) (s : ByteArray) (hb : base ≤ w.heap.size) : OwnT (w.alloc (.cells #[.string s] 9)) base (.slice (some ⟨w.heap.size, 0, none⟩) 1 1) [s] :=
  ⟨by simp [flat, encS], .inr ⟨w.heap.size, 1, _, rfl, hb, heap_alloc_new w _, Nat.le_refl _, by decide, rfl, rfl⟩⟩
end Go.Proofs.YtaffplmfnincfaaGreatDoor
/- append to a row of one's own: whose block the answer has. -/
namespace Go.Proofs.YtaffplmfnincfaaGreatDoor
set_option linter.unusedVariables false
open Go.RowKit
/-- The block of v' is that of v, or a new one. -/
def Anew (w : World) (v v' : Value) : Prop := ∀ k, v'.ownBlock = some k → v.ownBlock = some k ∨ w.heap.size ≤ k
theorem Anew.refl (w : World) (v : Value) : Anew w v v := fun k h => .inl h
theorem anew_run {P : Program} (w : World) (base : Nat) (t ty e : TypeId) (i : TypeInfo) (z : Value) (ht : P.underlying t = some (.slice e)) (hi : P.info? e = some i) (hz : i.zero = some z) (hzs : z.cells.size = i.size) (hsz : 0 < i.size)
    (v : Value) (n : Nat) (xs : List Value) (hown : w.ownsRow base e i.size v n xs)
    (a : Addr) (m c : Nat) (news : List Value) (hl : news.length = m * i.size) (hnews : ∀ j u, news[j]? = some u → w.cell? (a.add j) = some u) (h1 : ∀ u ∈ news, u.oneCell' = true)
    (h63 : n + m ≤ maxLen) (hbytes : (n + m) * i.bytes ≤ 140737488355328) (hbase : base ≤ w.heap.size) :
    ∃ v' w', (Builtin.append_ #[t, t] ty #[v, .slice (some a) m c]).run P w = .ok v' w' ∧ w'.ownsRow base e i.size v' (n + m) (xs ++ news) ∧ w.grownBy w' v.ownBlock ∧ Anew w v v' := by
  obtain ⟨v', w', hr, h2, h3, _⟩ := run_append_own (P := P) w base t ty e i z i.size i.bytes ht hi hz rfl rfl hzs hsz v n xs hown a m c news hl hnews h1 h63 hbytes hbase
  refine ⟨v', w', hr, h2, h3, ?_⟩
  rcases hown.2 with ⟨rfl, rfl⟩ | ⟨g, cap, cur, rfl, hbg, hg, hnc, hcm, hcs, htake⟩
  · have hx : xs = [] := List.eq_nil_of_length_eq_zero (by simpa using hown.1)
    subst hx
    obtain ⟨v2, w2, hr2, k2, _, _⟩ := run_append_own (P := P) w w.heap.size t ty e i z i.size i.bytes ht hi hz rfl rfl hzs hsz (.slice none 0 0) 0 [] (World.ownsRow_nil _ _ _ _) a m c news hl hnews h1 h63 hbytes (Nat.le_refl _)
    rw [hr] at hr2
    injection hr2 with e1 e2
    subst e1 e2
    exact fun k hk => .inr (k2.lt k hk).1
  · by_cases hroom : n + m ≤ cap
    · have hfit : n * i.size + news.length ≤ cur.size := by rw [hl, hcs, ← Nat.add_mul]; exact Nat.mul_le_mul_right _ hroom
      have hr2 := run_append_room (P := P) w t ty e i ht hi g n cap cur hg a m c news hl hnews h1 hroom hfit
      rw [hr] at hr2
      injection hr2 with e1 e2
      subst e1
      exact fun k hk => .inl hk
    · have hr2 := run_append_grow (P := P) w t ty e i z ht hi hz ⟨g, 0, none⟩ n cap xs hown.1 (hown.cells (g := g) rfl) a m c news hl hnews (by omega) (by simp only [maxLen] at h63; omega) (growslice_fits (by omega) hbytes)
      rw [hr] at hr2
      injection hr2 with e1 e2
      subst e1
      refine fun k hk => .inr ?_
      simp [Value.ownBlock] at hk
      omega
/-- append(s, x...), with the answer's block. -/
theorem appN {α : Type} {E : Enc α} (T : RowTy E) {w : World} {ops : Array Oper} {rest : List Oper} {o : Oper} {a : Act} {Q : Exit → Act → World → Prop} (hgd : o.guard = none) (s x : Operand)
    (ho : o.op = .call { callee := .builtin .append, args := #[s, x], argTypes := #[T.st, T.st] })
    (base : Nat) (v u : Value) (l m : List α) (hs : a.eval s = v) (hx : a.eval x = u)
    (hown : OwnS T w base v l) (hm : Sls E w u m) (hbase : base ≤ w.heap.size) (hlen : l.length + m.length ≤ 1000000000)
    (h : ∀ v' w', OwnS T w' base v' (l ++ m) → w.grownBy w' v.ownBlock → Anew w v v' → wpList Tryz.prog ops Q rest (a.put o.dst v') w') :
    wpList Tryz.prog ops Q (o :: rest) a w := by
  obtain ⟨i0, hi, hz0, hz1, hz2⟩ := info_parts T.hi
  have hbb : (l.length + m.length) * T.bytes ≤ 140737488355328 := by have h1 := Nat.mul_le_mul hlen T.hb; omega
  obtain ⟨ad, c, rfl, hnil, hcell⟩ := hm
  cases ad with
  | none =>
    have hms : m = [] := by
      rcases hcell with hcell | ⟨_, _, e, _⟩
      · exact hcell
      · cases e
    subst hms
    obtain rfl := hnil.1 rfl
    refine wpList_append_own_none hgd s x T.st ho base T.et i0 E.k T.hu hi v l.length (flat E l) hs hown hx ?_
    exact h v w (by simpa using hown) (grown_refl _ _) (Anew.refl _ _)
  | some ad =>
    have hcells : ∀ j y, (flat E m)[j]? = some y → w.cell? (ad.add j) = some y := by
      intro j y hj
      rcases hcell with rfl | ⟨b, o, e, hr⟩
      · simp [flat] at hj
      · cases e
        have hjl : j < m.length * E.k := by
          rw [← flat_len (E := E)]
          rcases Nat.lt_or_ge j (flat E m).length with h | h
          · exact h
          · rw [List.getElem?_eq_none h] at hj; cases hj
        have hd : j / E.k < m.length := (Nat.div_lt_iff_lt_mul E.pos).2 hjl
        have hmd : j % E.k < E.k := Nat.mod_lt _ E.pos
        have hjj : j / E.k * E.k + j % E.k = j := Nat.div_add_mod' j E.k
        have hg := flat_get (E := E) m (j / E.k) (j % E.k) hd hmd
        rw [hjj, hj] at hg
        have := hr (j / E.k) hd (j % E.k) y hg.symm
        rw [ladd_at]
        rw [Nat.add_assoc, hjj] at this
        exact this
    refine wpList_plain hgd fun K' hK' => ?_
    obtain ⟨v', w', hr, h2, h3, h4⟩ := anew_run (P := Tryz.prog) w base T.st o.type T.et i0 T.z T.hu hi hz0 (T.hz.trans hz1.symm) (by rw [hz1]; exact E.pos) v l.length (flat E l) (by rw [hz1]; exact hown) ad m.length c (flat E m) (by rw [hz1]; exact flat_len m) hcells (flat_one m) (by unfold maxLen; omega) (by rw [hz2]; exact hbb) hbase
    unfold Oper.wp execOp
    simp only [ho, resolve, invoke, builtin, Sem.run_bind, Sem.run_pure, Result.andThen_ok, List.map_toArray, List.map_cons, List.map_nil, hs, hx, hr]
    refine hK' _ _ (h v' w' ?_ h3 h4)
    unfold OwnS
    rw [flat_app, ← hz1]
    simpa using h2
end Go.Proofs.YtaffplmfnincfaaGreatDoor
/- Needs: what it tells, and its steps. -/
namespace Go.Proofs.YtaffplmfnincfaaGreatDoor
set_option linter.unusedVariables false
open Go.RowKit
theorem elem25 : Tryz.prog.underlying 25 = some (.slice (Tryz.prog.elem 25)) := by kernel_rfl
theorem size25 (W : World) : (sizeOf (Tryz.prog.elem 25)).run Tryz.prog W = .ok 1 W := by kernel_rfl
/-- v[:k]. -/
theorem pop_run (g n c k : Nat) (hk : k ≤ n) (hn : n ≤ c) (hc : 0 < c) (W : World) : (Instr.slice 25 (.slice (some ⟨g, 0, none⟩) n c) none (some (.int .i64 (k : Int))) none).run Tryz.prog W = .ok (.slice (some ⟨g, 0, none⟩) k c) W := by
  rw [run_slice_h W 25 (some ⟨g, 0, none⟩) n c elem25 .i64 k (by omega) (by omega), size25]
  have h : c ≠ 0 := by omega
  simp [Result.andThen, sliced, h, ladd_at]
/-- What Needs gathers. -/
inductive NeedR : List (ByteArray × Nd) → List ByteArray → List ByteArray → List ByteArray → Prop
  | done (M : List (ByteArray × Nd)) (L : List ByteArray) : NeedR M [] L L
  | miss {M : List (ByteArray × Nd)} {A L out : List ByteArray} {r : ByteArray} : asc r M = none → NeedR M A L out → NeedR M (A ++ [r]) L out
  | hit {M : List (ByteArray × Nd)} {A L out : List ByteArray} {r : ByteArray} {x : Nd} : asc r M = some x → NeedR (dropK r M) (A ++ inpN x) (L ++ [r]) out → NeedR M (A ++ [r]) L out
theorem asc_mem {β : Type} {op : ByteArray} {φ : β} : ∀ {l : List (ByteArray × β)}, asc op l = some φ → (op, φ) ∈ l
  | [], h => by cases h
  | p :: l, h => by
    unfold asc at h
    by_cases ho : op = p.1
    · rw [if_pos ho] at h
      injection h with h
      subst ho h
      exact List.mem_cons_self
    · rw [if_neg ho] at h
      exact List.mem_cons_of_mem _ (asc_mem h)
theorem dropK_sub {β : Type} (op : ByteArray) : ∀ (l : List (ByteArray × β)), ∀ p ∈ dropK op l, p ∈ l
  | [], p, h => h
  | q :: l, p, h => by
    unfold dropK at h
    by_cases ho : op = q.1
    · rw [if_pos ho] at h; exact List.mem_cons_of_mem _ h
    · rw [if_neg ho] at h
      rcases List.mem_cons.1 h with rfl | h
      · exact List.mem_cons_self
      · exact List.mem_cons_of_mem _ (dropK_sub op l p h)
theorem addN_mem {acc : List (ByteArray × Nd)} {x : Nd} {p : ByteArray × Nd} (h : p ∈ addN acc x) : p ∈ acc ∨ p = (x.ref, x) := by
  unfold addN at h
  split at h
  · rcases List.mem_append.1 h with h | h
    · exact .inl h
    · exact .inr (List.mem_singleton.1 h)
  · exact .inl h
theorem byN_mem {l : List Nd} {p : ByteArray × Nd} (h : p ∈ byN l) : p.2 ∈ l ∧ p.1 = p.2.ref := by
  have key : ∀ (l : List Nd) (acc : List (ByteArray × Nd)), p ∈ l.foldl addN acc → p ∈ acc ∨ (p.2 ∈ l ∧ p.1 = p.2.ref) := by
    intro l
    induction l with
    | nil => exact fun acc h => .inl h
    | cons x r ih =>
      intro acc h
      rcases ih _ h with h | ⟨h1, h2⟩
      · rcases addN_mem h with h | rfl
        · exact .inl h
        · exact .inr ⟨List.mem_cons_self, rfl⟩
      · exact .inr ⟨List.mem_cons_of_mem _ h1, h2⟩
  rcases key l [] h with h | h
  · cases h
  · exact h
theorem byN_len (l : List Nd) : (byN l).length ≤ l.length := by
  have key : ∀ (l : List Nd) (acc : List (ByteArray × Nd)), (l.foldl addN acc).length ≤ acc.length + l.length := by
    intro l
    induction l with
    | nil => exact fun acc => Nat.le_refl _
    | cons x r ih =>
      intro acc
      have h1 := ih (addN acc x)
      have h2 : (addN acc x).length ≤ acc.length + 1 := by unfold addN; split <;> simp
      simp only [List.foldl_cons, List.length_cons]
      omega
  have := key l []
  unfold byN
  simpa using this
/-- How many a map has. -/
def mapLen (w : World) (b : Nat) : Nat := match w.heap[b]? with
  | some (.map arr _) => arr.size
  | _ => 0
theorem Al.len {β : Type} {I : World → Value → β → Prop} {w : World} : ∀ {es : List MapEntry} {l : List (ByteArray × β)}, Al I w es l → es.length = l.length
  | [], [], _ => rfl
  | e :: es, p :: l, h => by rw [List.length_cons, List.length_cons, Al.len h.2]
  | [], _ :: _, h => h.elim
  | _ :: _, [], h => h.elim
theorem Tab.len {β : Type} {I : World → Value → β → Prop} {w : World} {b : Nat} {l : List (ByteArray × β)} (h : Tab I w b l) : mapLen w b = l.length := by
  obtain ⟨arr, clock, h1, h2⟩ := h
  unfold mapLen
  rw [h1]
  simpa using h2.len
def lenV : Value → Nat
  | .slice _ n _ => n
  | _ => 0
/-- A map and a row are not one block. -/
theorem Tab.ne {β : Type} {I : World → Value → β → Prop} {w : World} {b B : Nat} {l : List (ByteArray × β)} (h : Tab I w b l) {v : Value} {L : List ByteArray} (ho : OwnT w B v L) : v.ownBlock ≠ some b := by
  obtain ⟨arr, clock, h1, h2⟩ := h
  rcases ho.2 with ⟨rfl, _⟩ | ⟨g, cap, cur, rfl, _, hg, _⟩
  · simp [Value.ownBlock]
  · intro e
    simp [Value.ownBlock] at e
    subst e
    rw [h1] at hg
    cases hg
/-- What stands between two rounds of Needs. -/
structure NeedI (w : World) (b : Nat) (ref : ByteArray) (M0 : List (ByteArray × Nd)) (wr : World) (vN vA : Value) (M : List (ByteArray × Nd)) (A L : List ByteArray) : Prop where
  tab : NTab wr b M
  own : OwnT wr w.heap.size vN L
  owa : OwnT wr w.heap.size vA A
  two : ∀ k, vN.ownBlock = some k → vA.ownBlock ≠ some k
  bel : Below w.heap.size w wr
  all : ∀ out, NeedR M A L out → NeedR M0 [ref] [] out
  few : A.length + 1024 * M.length ≤ 1 + 1024 * M0.length
  lfw : L.length + M.length ≤ M0.length
  sub : ∀ p ∈ M, p ∈ M0
end Go.Proofs.YtaffplmfnincfaaGreatDoor
/- Needs. -/
namespace Go.Proofs.YtaffplmfnincfaaGreatDoor
set_option linter.unusedVariables false
open Go.RowKit
theorem AlN.any {w w' : World} : ∀ {es : List MapEntry} {l : List (ByteArray × Nd)}, Al NdI w es l → Al NdI w' es l
  | [], [], _ => trivial
  | e :: es, p :: l, h => ⟨⟨h.1.1, h.1.2⟩, AlN.any h.2⟩
  | [], _ :: _, h => h.elim
  | _ :: _, [], h => h.elim
theorem NTab.same {w w' : World} {b : Nat} {l : List (ByteArray × Nd)} (h : NTab w b l) (e : w'.heap[b]? = w.heap[b]?) : NTab w' b l := by
  obtain ⟨arr, clock, h1, h2⟩ := h
  exact ⟨arr, clock, e.trans h1, AlN.any h2⟩
theorem NTab.lt {w : World} {b : Nat} {l : List (ByteArray × Nd)} (h : NTab w b l) : b < w.heap.size := by
  obtain ⟨arr, clock, h1, h2⟩ := h
  exact (Array.getElem?_eq_some_iff.1 h1).1
/-- The block of a node's cells. -/
def NdB (w : World) (q : Nat) (x : Nd) : Prop := w.heap[q]? = some (.cells (ndC x) 36)
theorem NdB.cells {w : World} {q : Nat} {x : Nd} (h : NdB w q x) : w.cell? ⟨q, 0, none⟩ = some (.string x.ref) ∧ w.cell? ⟨q, 1, none⟩ = some (.int .i64 x.kind) ∧ w.cell? ⟨q, 2, none⟩ = some (.string x.source) ∧ w.cell? ⟨q, 3, none⟩ = some (.string x.input) ∧ w.cell? ⟨q, 4, none⟩ = some (.string x.how) ∧ w.cell? ⟨q, 5, none⟩ = some (.bool x.strict) ∧ w.cell? ⟨q, 6, none⟩ = some (.int .i64 x.low.kind) ∧ w.cell? ⟨q, 7, none⟩ = some (.int .i64 x.low.n) ∧ w.cell? ⟨q, 8, none⟩ = some (.int .i64 x.high.kind) ∧ w.cell? ⟨q, 9, none⟩ = some (.int .i64 x.high.n) ∧ w.cell? ⟨q, 10, none⟩ = some (.string x.text) := by
  refine ⟨?_, ?_, ?_, ?_, ?_, ?_, ?_, ?_, ?_, ?_, ?_⟩ <;> (unfold World.cell?; rw [show w.heap[q]? = _ from h]; rfl)
/-- A round that finds nothing. -/
theorem NeedI.miss {w : World} {b : Nat} {ref : ByteArray} {M0 : List (ByteArray × Nd)} {wr : World} {vN : Value} {g k c : Nat} {M : List (ByteArray × Nd)} {A L : List ByteArray} {r : ByteArray} (h : NeedI w b ref M0 wr vN (.slice (some ⟨g, 0, none⟩) (k + 1) c) M (A ++ [r]) L) (hr : asc r M = none) (o : Obj) : NeedI w b ref M0 (wr.alloc o) vN (.slice (some ⟨g, 0, none⟩) k c) M A L where
  tab := h.tab.grow (bW0 _ _)
  own := h.own.alloc _
  owa := (OwnT.pop h.owa).alloc _
  two := h.two
  bel := h.bel.trans ((bW0 wr o).mono h.bel.size)
  all := fun out ho => h.all out (.miss hr ho)
  few := by have := h.few; simp at this; omega
  lfw := h.lfw
  sub := h.sub
/-- A round that finds a node. -/
theorem NeedI.hit {w : World} {b : Nat} {ref : ByteArray} {M0 : List (ByteArray × Nd)} {wr : World} {vN : Value} {g k c : Nat} {M : List (ByteArray × Nd)} {A L : List ByteArray} {r : ByteArray} {x : Nd} (h : NeedI w b ref M0 wr vN (.slice (some ⟨g, 0, none⟩) (k + 1) c) M (A ++ [r]) L) (hr : asc r M = some x) {o o3 : Obj} {W2 W4 W5 W6 : World} {v2 v3 : Value}
    (t2 : NTab W2 b (dropK r M)) (d2 : (wr.alloc o).grownBy W2 (some b)) (b2 : Below b (wr.alloc o) W2) (hb : w.heap.size ≤ b)
    (o4 : OwnT W4 w.heap.size v2 (L ++ [r])) (d4 : (W2.alloc o3).grownBy W4 vN.ownBlock) (a4 : Anew (W2.alloc o3) vN v2)
    (b5 : Below W4.heap.size W4 W5)
    (o6 : OwnT W6 w.heap.size v3 (A ++ inpN x)) (d6 : W5.grownBy W6 (some g)) (a6 : Anew W5 (.slice (some ⟨g, 0, none⟩) k c) v3) : NeedI w b ref M0 W6 v2 v3 (dropK r M) (A ++ inpN x) (L ++ [r]) := by
  have hgl := h.owa.lt g rfl
  have hbl := h.tab.lt
  have hbg : g ≠ b := fun e => Tab.ne h.tab h.owa (by rw [← e]; rfl)
  have hbN : vN.ownBlock ≠ some b := Tab.ne h.tab h.own
  have s1 : (wr.alloc o).heap.size = wr.heap.size + 1 := by simp
  have s2 := d2.size
  have s3 : (W2.alloc o3).heap.size = W2.heap.size + 1 := by simp
  have s4 := d4.size
  have s5 := b5.size
  have s6 := d6.size
  have hB1 := h.bel.trans ((bW0 wr o).mono h.bel.size)
  have hB2 : Below w.heap.size w W2 := hB1.trans (b2.mono hb)
  have hB3 := hB2.trans ((bW0 W2 o3).mono hB2.size)
  have hB4 : Below w.heap.size w W4 := hB3.grown d4 hB3.size fun j hj => (h.own.lt j hj).1
  have hB5 := hB4.trans (b5.mono hB4.size)
  have hB6 : Below w.heap.size w W6 := hB5.grown d6 hB5.size fun j hj => by injection hj with e; rw [← e]; exact hgl.1
  have hl := dropK_len hr
  refine ⟨?_, ?_, o6, ?_, hB6, fun out ho => h.all out (.hit hr ho), ?_, ?_, fun p hp => h.sub p (dropK_sub r M p hp)⟩
  · have e3 : (W2.alloc o3).heap[b]? = W2.heap[b]? := (bW0 W2 o3).block b (by omega)
    have e4 := d4.block b (by omega) (fun e => hbN e.symm)
    have e5 := b5.block b (by omega)
    have e6 := d6.block b (by omega) (fun e => hbg (by injection e with e; exact e.symm))
    exact t2.same (e6.trans (e5.trans (e4.trans e3)))
  · have ho5 : OwnT W5 w.heap.size v2 (L ++ [r]) := o4.stay b5
    refine World.ownsRow.kept ho5 d6 ?_
    by_cases e : v2.ownBlock = none
    · exact .inl e
    · refine .inr fun e2 => ?_
      rcases a4 g e2 with e3 | e3
      · exact h.two g e3 rfl
      · omega
  · intro j hj hj2
    have hjl := o4.lt j hj
    rcases a6 j hj2 with e | e
    · simp [Value.ownBlock] at e
      subst e
      rcases a4 _ hj with e3 | e3
      · exact h.two _ e3 rfl
      · omega
    · omega
  · have h1 := h.few
    have h2 := inpN_len x
    simp at h1 ⊢
    omega
  · have h1 := h.lfw
    simp
    omega
end Go.Proofs.YtaffplmfnincfaaGreatDoor
/- Needs: the walk. -/
namespace Go.Proofs.YtaffplmfnincfaaGreatDoor
set_option linter.unusedVariables false
open Go.RowKit
theorem needI_new {w W : World} {b : Nat} {ref : ByteArray} {M0 : List (ByteArray × Nd)} (ht : NTab W b M0) (hB : Below w.heap.size w W) : NeedI w b ref M0 (W.alloc (.cells #[.string ref] 9)) (.slice none 0 0) (.slice (some ⟨W.heap.size, 0, none⟩) 1 1) M0 [ref] [] where
  tab := ht.grow (bW0 _ _)
  own := OwnS.nil _ _
  owa := own_one W _ ref hB.size
  two := fun k h => by cases h
  bel := hB.trans ((bW0 W _).mono hB.size)
  all := fun out h => h
  few := by simp
  lfw := by simp
  sub := fun p h => h
/-- What is ahead, opened. -/
theorem NeedI.last {w : World} {b : Nat} {ref : ByteArray} {M0 : List (ByteArray × Nd)} {wr : World} {vN : Value} {a : Option Addr} {n c : Nat} {M : List (ByteArray × Nd)} {A L : List ByteArray} (h : NeedI w b ref M0 wr vN (.slice a n c) M A L) (hn : n ≠ 0) : ∃ g k A' r, a = some ⟨g, 0, none⟩ ∧ n = k + 1 ∧ A = A' ++ [r] ∧ k = A'.length ∧ k + 1 ≤ c ∧ wr.cell? ⟨g, k, none⟩ = some (.string r) := by
  have hl := h.owa.sls.len
  rcases h.owa.2 with ⟨e, h0⟩ | ⟨g, cap, cur, e, hb, hg, hnc, hcm, hcs, htk⟩
  · omega
  · injection e with e1 e2 e3
    subst e1 e3
    have hne : A ≠ [] := fun e => by rw [e] at hl; simp at hl; omega
    refine ⟨g, n - 1, A.dropLast, A.getLast hne, rfl, by omega, (List.dropLast_concat_getLast hne).symm, by rw [List.length_dropLast, hl], by omega, ?_⟩
    obtain ⟨q, o, e, hc⟩ := tx_at h.owa.sls (n - 1) (by omega)
    injection e with e
    injection e with e4 e5
    subst e4 e5
    rw [Nat.zero_add] at hc
    rw [hc]
    congr 2
    rw [List.getLast_eq_getElem, List.getD_eq_getElem?_getD, List.getElem?_eq_getElem (by omega)]
    simp [hl]
theorem NeedI.side3 {w : World} {b : Nat} {ref : ByteArray} {M0 : List (ByteArray × Nd)} {wr : World} {vN vA : Value} {M : List (ByteArray × Nd)} {A L : List ByteArray} (h : NeedI w b ref M0 wr vN vA M A L) {o o3 : Obj} {W2 : World} (d2 : (wr.alloc o).grownBy W2 (some b)) (b2 : Below b (wr.alloc o) W2) (hb : w.heap.size ≤ b) : OwnT (W2.alloc o3) w.heap.size vN L ∧ OwnT (W2.alloc o3) w.heap.size vA A ∧ Below w.heap.size w (W2.alloc o3) := by
  have hB1 := h.bel.trans ((bW0 wr o).mono h.bel.size)
  have hB2 : Below w.heap.size w W2 := hB1.trans (b2.mono hb)
  have hB3 := hB2.trans ((bW0 W2 o3).mono hB2.size)
  have k1 : OwnT W2 w.heap.size vN L := World.ownsRow.kept (h.own.alloc o) d2 (.inr (Tab.ne h.tab h.own))
  have k2 : OwnT W2 w.heap.size vA A := World.ownsRow.kept (h.owa.alloc o) d2 (.inr (Tab.ne h.tab h.owa))
  exact ⟨k1.alloc o3, k2.alloc o3, hB3⟩
theorem NeedI.side4 {w : World} {b : Nat} {ref : ByteArray} {M0 : List (ByteArray × Nd)} {wr : World} {vN : Value} {g k c : Nat} {M : List (ByteArray × Nd)} {A L : List ByteArray} {r : ByteArray} {x : Nd} (h : NeedI w b ref M0 wr vN (.slice (some ⟨g, 0, none⟩) (k + 1) c) M (A ++ [r]) L) {o3 : Obj} {W2 W4 : World} (d2 : (wr.alloc (.cells (ndC x) 36)).grownBy W2 (some b)) (b2 : Below b (wr.alloc (.cells (ndC x) 36)) W2) (hb : w.heap.size ≤ b) (d4 : (W2.alloc o3).grownBy W4 vN.ownBlock) : NdB W4 wr.heap.size x ∧ Below w.heap.size w W4 ∧ ∀ W5, Below W4.heap.size W4 W5 → OwnT W5 w.heap.size (.slice (some ⟨g, 0, none⟩) k c) A := by
  obtain ⟨k1, k2, hB3⟩ := h.side3 (o3 := o3) d2 b2 hb
  have hbl := h.tab.lt
  have s1 : (wr.alloc (.cells (ndC x) 36)).heap.size = wr.heap.size + 1 := by simp
  have s2 := d2.size
  have s3 : (W2.alloc o3).heap.size = W2.heap.size + 1 := by simp
  refine ⟨?_, hB3.grown d4 hB3.size fun j hj => (h.own.lt j hj).1, fun W5 b5 => ?_⟩
  · have e1 : (wr.alloc (.cells (ndC x) 36)).heap[wr.heap.size]? = some (.cells (ndC x) 36) := heap_alloc_new wr _
    have e2 := d2.block wr.heap.size (by omega) (fun e => by injection e with e; omega)
    have e3 : (W2.alloc o3).heap[wr.heap.size]? = W2.heap[wr.heap.size]? := (bW0 W2 o3).block _ (by omega)
    have e4 := d4.block wr.heap.size (by omega) (fun e => by have := (h.own.lt _ e.symm).2; omega)
    exact e4.trans (e3.trans (e2.trans e1))
  · have k4 : OwnT W4 w.heap.size (.slice (some ⟨g, 0, none⟩) (k + 1) c) (A ++ [r]) := World.ownsRow.kept k2 d4 (.inr fun e => h.two g (by rw [← e]; rfl) rfl)
    exact OwnT.pop (k4.stay b5)
set_option maxRecDepth 100000 in
set_option maxHeartbeats 8000000 in
/-- Needs. -/
theorem needs17 (ref : ByteArray) (a : Option Addr) (n c : Nat) (l : List Nd) (w : World) (hG : G w) (hS : SignsAt w) (hv : Sls encN w (.slice a n c) l) (hl : l.length ≤ 100) (hsh : ShN l) : Calls Tryz.prog 17 #[.string ref, .slice a n c] w fun e w' => ∃ a' n' c' L, e = .returned (.slice a' n' c') ∧ Hid (NeedR (byN l) [ref] [] L ∧ Txs w' (.slice a' n' c') (srtS L) ∧ Below w.heap.size w w') := by
  have hby := byRef21 a n c l w hv (by omega)
  have hinp : Hid (∀ (W : World) (x : Nd) (r : ByteArray), (r, x) ∈ byN l → Below w.heap.size w W → Calls Tryz.prog 12 #[ndV x] W fun e w' => ∃ a n c, e = .returned (.slice a n c) ∧ Hid (Txs w' (.slice a n c) (inpN x) ∧ Below W.heap.size W w')) := fun W x r hx hB =>
    inputs12 x W (hG.grow hB) (hS.grow hB) (by have := hsh x (byN_mem hx).1; omega)
  have hm0 : (byN l).length ≤ 100 := by have := byN_len l; omega
  clear hv hG hS hsh hl
  generalize byN l = M0 at *
  go_enter Tryz.func17, Tryz.ntmps17
  go_wp2_with (first
    | (go_at_call 21; refine hby.mono ?_; clear hby; rintro e W ⟨b, rfl, h1⟩; obtain ⟨ht, hb, hB⟩ := h1.out; clear h1))
  have hI0 : Hid (NeedI w b ref M0 _ _ _ M0 [ref] []) := needI_new ht hB
  go_loopw [6, 7] (fun vN vA wr => ∃ (aN : Option Addr) (nN cN : Nat) (aA : Option Addr) (nA cA : Nat) (M : List (ByteArray × Nd)) (A L : List ByteArray), vN = .slice aN nN cN ∧ vA = .slice aA nA cA ∧ Hid (NeedI w b ref M0 wr vN vA M A L)) (fun _ vA wr => mapLen wr b * 1025 + lenV vA)
  case atStart => exact ⟨none, 0, 0, _, 1, 1, M0, [ref], [], rfl, rfl, hI0⟩
  case round =>
    obtain ⟨aN, nN, cN, aA, nA, cA, M, A, L, rfl, rfl, hI⟩ := hrel
    by_cases hz : nA = 0
    · subst hz
      have hA : A = [] := List.eq_nil_of_length_eq_zero hI.out.owa.sls.len.symm
      subst hA
      have hso := sortT hI.out.own hI.out.bel.size (by have := hI.out.lfw; omega)
      have hfin : Hid (NeedR M0 [ref] [] L) := hI.out.all L (.done M L)
      have hBr := hI.out.bel
      clear hI hI0 ht hinp
      go_wp2_with (first
        | (go_at_call 38; refine hso.mono ?_; clear hso; rintro e w2 ⟨rfl, ho2, hb2⟩))
      go_ret
      exact ⟨_, _, _, L, rfl, hfin.out, ho2.sls, hBr.trans hb2⟩
    · obtain ⟨g, k, A', r, rfl, rfl, rfl, hk, hkc, hcell⟩ := hI.out.last hz
      replace hk : Hid (k = A'.length) := hk
      clear hz hI0 ht
      have hpop := pop_run g (k + 1) cA k (by omega) hkc (by omega)
      have hk64 : k ≤ 1000000000 := by have := hI.out.few; have := hk.out; simp at *; omega
      rcases look_nd hI.out.tab r with ⟨g1, g2⟩ | ⟨x, g1, g2⟩
      · have hI2 : Hid (NeedI w b ref M0 _ _ _ _ _ _) := hI.out.miss g1 (.cells (ndC nd0) 36)
        have hme : Hid (mapLen (wr.alloc (.cells (ndC nd0) 36)) b = mapLen wr b) := hI2.out.tab.len.trans hI.out.tab.len.symm
        unfold nd0 at g2 hI2 hme
        go_wp2
        go_roundw
        case rel => exact ⟨aN, nN, cN, _, k, cA, M, A', L, rfl, rfl, hI2⟩
        case measure => rw [hme.out]; simp [lenV]
      · have hcall := hinp.out
        have hxm := hI.out.sub _ (asc_mem g1)
        have ht1 : NTab (wr.alloc (.cells (ndC x) 36)) b M := hI.out.tab.grow (bW0 _ _)
        have hfw : L.length + [r].length ≤ 1000000000 := by have := hI.out.lfw; simp; omega
        have hfa : A'.length + (inpN x).length ≤ 1000000000 := by have h1 := hI.out.few; have := inpN_len x; rw [List.length_append] at h1; omega
        clear hinp
        go_wp2_with (first
          | (at_delete; refine wpDel NdI.keep map47 rfl (.tmp 37) (.tmp 38) rfl ht1 g1 rfl rfl ?_; intro W2 t2 b2 k2 d2; obtain ⟨k3, -, hB3⟩ := hI.out.side3 (o3 := .cells #[.string r] 9) d2 b2 hb)
          | (at_builtin; refine appN TS rfl (.tmp 39) (.tmp 41) rfl w.heap.size _ _ L [r] rfl rfl k3 (sls_one (E := encS) W2 r #[.string r] 9 rfl) hB3.size hfw ?_; intro v2 W4 o4 d4 a4; obtain ⟨hnb, hB4, hA5⟩ := hI.out.side4 d2 b2 hb d4; obtain ⟨c0, c1, c2, c3, c4, c5, c6, c7, c8, c9, c10⟩ := hnb.cells; have hc12 := hcall W4 x r hxm hB4; obtain ⟨a2, c2', hv2⟩ := o4.shape)
          | (go_at_call 12; refine hc12.mono ?_; clear hc12; rintro e W5 ⟨a5, n5, c5', rfl, h5⟩)
          | (at_builtin; refine appN TS rfl (.tmp 43) (.tmp 45) rfl w.heap.size _ _ A' (inpN x) rfl rfl (hA5 W5 h5.out.2) h5.out.1 (hB4.trans (h5.out.2.mono hB4.size)).size hfa ?_; intro v3 W6 o6 d6 a6; obtain ⟨a3, c3', hv3⟩ := o6.shape))
        have hI6 : Hid (NeedI w b ref M0 W6 v2 v3 (dropK r M) (A' ++ inpN x) (L ++ [r])) := hI.out.hit g1 t2 d2 b2 hb o4 d4 a4 h5.out.2 o6 d6 a6
        have hme : mapLen W6 b * 1025 + lenV v3 < mapLen wr b * 1025 + (k + 1) := by
          rw [hI6.out.tab.len, hI.out.tab.len, hv3]
          have := dropK_len g1
          have := inpN_len x
          have := hk.out
          simp [lenV]
          omega
        go_roundw
        case rel =>
          refine ⟨a2, _, c2', a3, _, c3', dropK r M, A' ++ inpN x, L ++ [r], rfl, rfl, ?_⟩
          have h := hI6.out
          rw [hv2, hv3, List.length_append, List.length_append] at h
          exact h
        case measure =>
          rw [hv3, List.length_append] at hme
          exact hme
end Go.Proofs.YtaffplmfnincfaaGreatDoor
