/- QRound; QRw; QRr; QLeastM; QRs; QRt; QTell; QGt. -/
import Derived.Test.YtiajafljgfpdcaaGreatQReadQKn
import Derived.Test.YtiajafljgfpdcaaGreatQMathQText
import Derived.Lib.Strings
import Derived.Deep.RegionLaw
import Derived.Deep.RegionHeld3
import Derived.BigQuiet
import Derived.Deep.QuietTactic
import Derived.Laws.AppendOwn
import Derived.Lib.Bytes
/- What was written is read back: the mathematics. -/
namespace Go.Proofs.YtiajafljgfpdcaaGreat.Q
open Go.RowKit
theorem div_step (n k : Nat) : n / 128 ^ (k + 1) * 128 + n / 128 ^ k % 128 = n / 128 ^ k := by
  have : n / 128 ^ (k + 1) = n / 128 ^ k / 128 := by rw [Nat.pow_succ, Nat.div_div_eq_div_mul]
  rw [this]; omega
theorem rdN_low (n : Nat) (f : Bool) (i : Nat) (rest : List Int) : rdN f (n / 128) i (((n % 128 : Nat) : Int) :: rest) = (n, i + 1, 0) := by
  rw [rdN, if_neg (by omega), if_pos (by omega), Int.toNat_natCast]
  simp; omega
theorem rdN_hi (n : Nat) (hn : n < 2 ^ 64) (rest : List Int) : ∀ (k : Nat) (f : Bool) (i : Nat), (f = true → 0 < n / 128 ^ k % 128 ∨ k = 0) → rdN f (n / 128 ^ (k + 1)) i (hi n k ++ ((n % 128 : Nat) : Int) :: rest) = (n, i + k + 1, 0) := by
  intro k
  induction k with
  | zero => intro f i _; simpa [hi] using rdN_low n f i rest
  | succ k ih =>
    intro f i hf
    have hd := div_step n (k + 1)
    have hle : n / 128 ^ (k + 1) ≤ 144115188075855871 := by
      have h1 : n / 128 ^ (k + 1) ≤ n / 128 := by
        rw [Nat.pow_succ, Nat.mul_comm, ← Nat.div_div_eq_div_mul]
        exact Nat.div_le_self _ _
      omega
    rw [hi, List.cons_append, rdN]
    have ht : (((n / 128 ^ (k + 1) % 128 + 128 : Nat) : Int)).toNat % 128 = n / 128 ^ (k + 1) % 128 := by rw [Int.toNat_natCast]; omega
    rw [ht, hd, if_neg, if_neg (by omega), if_neg (by omega), ih false (i + 1) (by simp)]
    · simp; omega
    · rintro ⟨h1, h2⟩
      rcases hf h1 with h | h
      · omega
      · omega
/-- What Number writes is read back. -/
theorem rdN_enc (n : Nat) (hn : n < 2 ^ 64) (rest : List Int) : rdN true 0 0 (enc n ++ rest) = (n, (enc n).length, 0) := by
  have h0 : n / 128 ^ (ahead n + 1) = 0 := Nat.div_eq_of_lt (lt_ahead n)
  have h := rdN_hi n hn rest (ahead n) true 0 (by
    intro _
    by_cases ha : ahead n = 0
    · exact .inr ha
    · refine .inl ?_
      have hp : 0 < n := by
        rcases Nat.eq_zero_or_pos n with h | h
        · subst h; exact absurd (by decide : ahead 0 = 0) ha
        · exact h
      have h1 := ahead_le n hp
      have h2 := lt_ahead n
      have h3 : 0 < n / 128 ^ ahead n := Nat.div_pos h1 (Nat.pos_of_ne_zero (by simp))
      have h4 : n / 128 ^ ahead n < 128 := by
        rw [Nat.div_lt_iff_lt_mul (Nat.pos_of_ne_zero (by simp))]
        rw [Nat.pow_succ] at h2; omega
      omega)
  rw [h0] at h
  rw [enc_length, enc, List.append_assoc]
  simpa using h
theorem rdS_encS (z : Int) (h1 : -9223372036854775808 ≤ z) (h2 : z ≤ 9223372036854775807) (rest : List Int) : rdS (encS z ++ rest) = (z, (encS z).length, 0) := by
  unfold encS
  split
  · have hr := rdN_enc (-z).toNat (by omega) rest
    rw [List.cons_append, rdS, hr, if_pos (by omega), if_pos rfl]
    simp only [wS]
    rw [if_pos trivial, if_neg (by omega), if_neg (by omega)]
    simp; omega
  · have hr := rdN_enc z.toNat (by omega) rest
    rw [List.cons_append, rdS, hr, if_pos (by omega), if_pos rfl]
    simp only [wS]
    rw [if_neg (by omega), if_neg (by omega)]
    simp; omega
theorem rdT_encT (most : Nat) (s : ByteArray) (h : s.size ≤ most) (hs : s.size < 2 ^ 64) (rest : List Int) : rdT most (encT s ++ rest) = (numsS s, (encT s).length, 0) := by
  have hr := rdN_enc s.size hs (numsS s ++ rest)
  unfold rdT encT
  rw [List.append_assoc, hr]
  simp only [if_pos]
  rw [if_neg (by omega), List.drop_left, if_neg (by rw [List.length_append, numsS_length]; omega)]
  rw [← numsS_length s, List.take_left, List.length_append]
/-- A list of pieces, parted at a place. -/
theorem cat_at {α : Type} (f : α → List Int) (l : List α) (d : α) (k : Nat) (h : k < l.length) : cat f l = cat f (l.take k) ++ (f (l.getD k d) ++ cat f (l.drop (k + 1))) := by
  have h1 : l = l.take k ++ (l.getD k d :: l.drop (k + 1)) := by
    have : l.getD k d = l[k] := by simp [h]
    rw [this, ← List.drop_eq_getElem_cons h, List.take_append_drop]
  unfold cat
  conv => lhs; rw [h1]
  simp
theorem isBytes_append {a b : List Int} (ha : IsBytes a) (hb : IsBytes b) : IsBytes (a ++ b) := by
  intro c hc
  rcases List.mem_append.1 hc with h | h
  · exact ha c h
  · exact hb c h
theorem isBytes_hi (n k : Nat) : IsBytes (hi n k) := by
  induction k with
  | zero => intro c hc; cases hc
  | succ k ih =>
    intro c hc
    rcases List.mem_cons.1 hc with h | h
    · subst h; omega
    · exact ih c h
theorem isBytes_enc (n : Nat) : IsBytes (enc n) := isBytes_append (isBytes_hi n _) (by intro c hc; simp at hc; subst hc; omega)
theorem isBytes_encS (z : Int) : IsBytes (encS z) := by
  unfold encS
  split
  all_goals
    intro c hc
    rcases List.mem_cons.1 hc with h | h
    · subst h; omega
    · exact isBytes_enc _ c h
theorem isBytes_nums (s : ByteArray) : IsBytes (numsS s) := by
  intro c hc
  obtain ⟨b, _, rfl⟩ := List.mem_map.1 hc
  have := b.toNat_lt
  omega
theorem isBytes_encT (s : ByteArray) : IsBytes (encT s) := isBytes_append (isBytes_enc _) (isBytes_nums s)
theorem isBytes_cat {α : Type} (f : α → List Int) (l : List α) (h : ∀ x ∈ l, IsBytes (f x)) : IsBytes (cat f l) := by
  intro c hc
  obtain ⟨p, hp, hcp⟩ := List.mem_flatten.1 hc
  obtain ⟨x, hx, rfl⟩ := List.mem_map.1 hp
  exact h x hx c hcp
end Go.Proofs.YtiajafljgfpdcaaGreat.Q
/- Rows of elements of k cells each (grants, texts): read, or of the call's own; append. -/
namespace Go.Proofs.YtiajafljgfpdcaaGreat.Q
set_option linter.unusedVariables false
open Go.RowKit
theorem Own.grows {w w' : World} {base : Nat} {v : Value} {xs : List Int} (h : Own w base v xs) (hb : base ≤ w.heap.size) (hg : w.grownBy w' v.ownBlock) : Below base w w' := (Below.refl base w).grown hg hb (fun k hk => (h.lt k hk).1)
theorem Bts.keep {w w' : World} {g o n c : Nat} {bs : List Int} (h : Bts w (.slice (some ⟨g, o, none⟩) n c) bs) (e : w'.heap[g]? = w.heap[g]?) : Bts w' (.slice (some ⟨g, o, none⟩) n c) bs := by
  obtain ⟨a, c', e1, hn, h1⟩ := h
  cases e1
  refine ⟨_, _, rfl, hn, ?_⟩
  rcases h1 with h1 | ⟨b, o', e2, hr⟩
  · exact .inl h1
  · cases e2
    exact .inr ⟨g, o, rfl, fun t h0 ht => by rw [← hr t h0 ht]; simp only [World.cell?, e]⟩
theorem heap_new (w : World) (o : Obj) : (w.alloc o).heap[w.heap.size]? = some o := by
  show (w.heap.push o)[w.heap.size]? = _
  simp
theorem heap_old (w : World) (o : Obj) {g : Nat} (h : g < w.heap.size) : (w.alloc o).heap[g]? = w.heap[g]? := by
  show (w.heap.push o)[g]? = _
  rw [Array.getElem?_push, if_neg (by omega)]
theorem own_ne {w : World} {base : Nat} {v : Value} {xs : List Int} (h : Own w base v xs) {g : Nat} (hg : w.heap.size ≤ g) : ¬ some g = v.ownBlock := fun e => by
  have := h.lt g e.symm
  omega
theorem Own.kept {w w' : World} {base g : Nat} {v : Value} {xs : List Int} (h : Own w base v xs) (hg : w.grownBy w' (some g)) (hne : ¬ some g = v.ownBlock) : Own w' base v xs := World.ownsRow.kept h hg (.inr fun e => hne e.symm)
theorem numsS_strOf (xs : List Int) (h : IsBytes xs) : numsS (strOfNums xs) = xs := by
  unfold numsS strOfNums
  simp only [List.map_map]
  conv => rhs; rw [← List.map_id xs]
  refine List.map_congr_left fun c hc => ?_
  have := h c hc
  simp only [Function.comp, id]
  rw [UInt8.toNat_ofNat_of_lt' (by show _ < 256; omega)]
  omega
theorem strOf_append (xs ys : List Int) : strOfNums xs ++ strOfNums ys = strOfNums (xs ++ ys) := by
  apply ByteArray.ext
  rw [ByteArray.data_append]
  simp [strOfNums]
theorem strOf_size (xs : List Int) : (strOfNums xs).size = xs.length := by show Array.size _ = _; simp
theorem grown_refl (w : World) (k : Option Nat) : w.grownBy w k := ⟨rfl, rfl, rfl, Nat.le_refl _, fun _ _ _ => rfl⟩
/-- How an element lies in cells. -/
structure Enc (α : Type) where
  arr : α → List Value
  d : α
  k : Nat
  len : ∀ x, (arr x).length = k
  one : ∀ x, ∀ u ∈ arr x, u.oneCell' = true
  pos : 0 < k
/-- The types of a row: of the slice, of an element. -/
structure RowTy {α : Type} (E : Enc α) where
  st : TypeId
  et : TypeId
  z : Value
  bytes : Nat
  hu : Tryz.prog.underlying st = some (.slice et)
  hi : (Tryz.prog.info? et).map (fun i => (i.zero, i.size, i.bytes)) = some (some z, E.k, bytes)
  hz : z.cells.size = E.k
  hb : bytes ≤ 64
section
variable {α : Type} {E : Enc α}
/-- An element in memory, from place o of block b on. -/
def At (E : Enc α) (w : World) (b o : Nat) (x : α) : Prop := ∀ i u, (E.arr x)[i]? = some u → w.cell? ⟨b, o + i, none⟩ = some u
/-- A slice value whose elements are l. -/
def Sls (E : Enc α) (w : World) (v : Value) (l : List α) : Prop :=
  ∃ a c, v = .slice a l.length c ∧ ((a = none → c = 0) ∧ l.length ≤ c) ∧ (l = [] ∨ ∃ b o, a = some ⟨b, o, none⟩ ∧ ∀ t, t < l.length → At E w b (o + t * E.k) (l.getD t E.d))
theorem At.grow {w w' : World} {b o : Nat} {x : α} (h : At E w b o x) (hb : Below w.heap.size w w') : At E w' b o x := fun i u hu =>
  (hb.cell (p := ⟨b, o + i, none⟩) (World.block_lt_of_cell? w _ (h i u hu))).trans (h i u hu)
theorem Sls.grow {w w' : World} {v : Value} {l : List α} (h : Sls E w v l) (hb : Below w.heap.size w w') : Sls E w' v l := by
  obtain ⟨a, c, rfl, hn, h⟩ := h
  refine ⟨a, c, rfl, hn, ?_⟩
  rcases h with h | ⟨b, o, rfl, h⟩
  · exact .inl h
  · exact .inr ⟨b, o, rfl, fun t ht => (h t ht).grow hb⟩
theorem Sls.alloc {w : World} {v : Value} {l : List α} (h : Sls E w v l) (o : Obj) : Sls E (w.alloc o) v l := h.grow ((Below.refl _ w).alloc (Nat.le_refl _) o)
theorem Sls.drew {w : World} {v : Value} {l : List α} (h : Sls E w v l) : Sls E w.drew v l := h.grow ((Below.refl _ w).drew)
theorem Sls.shape {w : World} {v : Value} {l : List α} (h : Sls E w v l) : ∃ a c, v = .slice a l.length c := by
  obtain ⟨a, c, h, _⟩ := h
  exact ⟨a, c, h⟩
theorem sls_nil (w : World) : Sls E w (.slice none 0 0) [] := ⟨none, 0, rfl, ⟨fun _ => rfl, Nat.le_refl _⟩, .inl rfl⟩
/-- The element at place t. -/
theorem Sls.at {w : World} {a : Option Addr} {n c : Nat} {l : List α} (h : Sls E w (.slice a n c) l) (t : Nat) (ht : t < l.length) : ∃ b o, a = some ⟨b, o, none⟩ ∧ At E w b (o + t * E.k) (l.getD t E.d) := by
  obtain ⟨a', c', e, _, h⟩ := h
  cases e
  rcases h with h | ⟨b, o, rfl, h⟩
  · rw [h] at ht; simp at ht
  · exact ⟨b, o, rfl, h t ht⟩
theorem Sls.len {w : World} {a : Option Addr} {n c : Nat} {l : List α} (h : Sls E w (.slice a n c) l) : n = l.length := by
  obtain ⟨a', c', e, _⟩ := h
  cases e; rfl
def flat (E : Enc α) (l : List α) : List Value := (l.map E.arr).flatten
theorem flat_len (l : List α) : (flat E l).length = l.length * E.k := by
  unfold flat
  induction l with
  | nil => simp
  | cons c r ih => simp only [List.map_cons, List.flatten_cons, List.length_append, ih, List.length_cons, E.len]; rw [Nat.add_mul]; omega
theorem flat_app (l m : List α) : flat E (l ++ m) = flat E l ++ flat E m := by simp [flat]
theorem flat_one (l : List α) : ∀ u ∈ flat E l, u.oneCell' = true := by
  intro u hu
  obtain ⟨x, hx, hux⟩ := List.mem_flatten.1 hu
  obtain ⟨c, _, rfl⟩ := List.mem_map.1 hx
  exact E.one c u hux
theorem flat_get (l : List α) (t i : Nat) (ht : t < l.length) (hi : i < E.k) : (flat E l)[t * E.k + i]? = (E.arr (l.getD t E.d))[i]? := by
  induction l generalizing t with
  | nil => simp at ht
  | cons c r ih =>
    have e : flat E (c :: r) = E.arr c ++ flat E r := rfl
    have hc : (E.arr c).length = E.k := E.len c
    rw [e]
    cases t with
    | zero =>
      rw [List.getElem?_append_left (by rw [hc]; omega)]
      simp
    | succ t =>
      have h1 : (t + 1) * E.k = t * E.k + E.k := by rw [Nat.add_mul]; omega
      rw [List.getElem?_append_right (by rw [hc]; omega), hc, show (t + 1) * E.k + i - E.k = t * E.k + i by omega, ih t (by simpa using ht)]
      simp
/-- A slice of the call's own (blocks from base on), or nil. -/
def OwnS (T : RowTy E) (w : World) (base : Nat) (v : Value) (l : List α) : Prop := w.ownsRow base T.et E.k v l.length (flat E l)
variable {T : RowTy E}
theorem OwnS.cast {w : World} {base : Nat} {v : Value} {l m : List α} (h : OwnS T w base v l) (e : l = m) : OwnS T w base v m := e ▸ h
theorem OwnS.alloc {w : World} {base : Nat} {v : Value} {l : List α} (h : OwnS T w base v l) (o : Obj) : OwnS T (w.alloc o) base v l := World.ownsRow.alloc h o
theorem OwnS.lt {w : World} {base : Nat} {v : Value} {l : List α} (h : OwnS T w base v l) : ∀ k, v.ownBlock = some k → base ≤ k ∧ k < w.heap.size := World.ownsRow.lt h
theorem OwnS.stay {w w' : World} {base : Nat} {v : Value} {l : List α} (h : OwnS T w base v l) (hb : Below w.heap.size w w') : OwnS T w' base v l := by
  refine World.ownsRow.kept (row := none) h ⟨hb.os, hb.tape, hb.output, hb.size, fun k hk _ => hb.block k hk⟩ ?_
  by_cases e : v.ownBlock = none
  · exact .inl e
  · exact .inr e
theorem OwnS.nil (w : World) (base : Nat) : OwnS T w base (.slice none 0 0) [] := World.ownsRow_nil _ _ _ _
theorem OwnS.wide {w : World} {b0 b1 : Nat} {v : Value} {l : List α} (h : OwnS T w b1 v l) (hb : b0 ≤ b1) : OwnS T w b0 v l := by
  refine ⟨h.1, ?_⟩
  rcases h.2 with h | ⟨g, cap, cur, e, h1, h2⟩
  · exact .inl h
  · exact .inr ⟨g, cap, cur, e, Nat.le_trans hb h1, h2⟩
/-- .. is read as such. -/
theorem OwnS.sls {w : World} {base : Nat} {v : Value} {l : List α} (h : OwnS T w base v l) : Sls E w v l := by
  have h2 := h
  rcases h.2 with ⟨rfl, h0⟩ | ⟨g, cap, cur, rfl, hb, hg, hnc, hcm, hcs, htake⟩
  · have : l = [] := List.length_eq_zero_iff.1 h0
    subst this
    exact sls_nil _
  · refine ⟨_, cap, rfl, ⟨(fun e => by cases e), hnc⟩, ?_⟩
    by_cases hl : l = []
    · exact .inl hl
    · refine .inr ⟨g, 0, rfl, fun t ht i u hu => ?_⟩
      have hi : i < E.k := by
        rw [← E.len (l.getD t E.d)]
        rcases Nat.lt_or_ge i (E.arr (l.getD t E.d)).length with h | h
        · exact h
        · rw [List.getElem?_eq_none h] at hu; cases hu
      have := World.ownsRow.cells h2 (g := g) rfl (t * E.k + i) u (by rw [flat_get l t i ht hi]; exact hu)
      rw [add_at] at this
      rw [← this]
      congr 2
      omega
theorem OwnS.shape {w : World} {base : Nat} {v : Value} {l : List α} (h : OwnS T w base v l) : ∃ a c, v = .slice a l.length c := h.sls.shape
theorem OwnS.grows {w w' : World} {base : Nat} {v : Value} {l : List α} (h : OwnS T w base v l) (hb : base ≤ w.heap.size) (hg : w.grownBy w' v.ownBlock) : Below base w w' := (Below.refl base w).grown hg hb (fun k hk => (h.lt k hk).1)
/-- append(s, x...). -/
theorem appRb (T : RowTy E) {w : World} {ops : Array Oper} {rest : List Oper} {o : Oper} {a : Act} {Q : Exit → Act → World → Prop} (hgd : o.guard = none) (s x : Operand)
    (ho : o.op = .call { callee := .builtin .append, args := #[s, x], argTypes := #[T.st, T.st] })
    (base : Nat) (v u : Value) (l m : List α) (hs : a.eval s = v) (hx : a.eval x = u)
    (hown : OwnS T w base v l) (hm : Sls E w u m) (hbase : base ≤ w.heap.size) (hlen : l.length + m.length ≤ 4398046511104) (hbb : (l.length + m.length) * T.bytes ≤ 140737488355328)
    (h : ∀ v' w', OwnS T w' base v' (l ++ m) → w.grownBy w' v.ownBlock → wpList Tryz.prog ops Q rest (a.put o.dst v') w') :
    wpList Tryz.prog ops Q (o :: rest) a w := by
  obtain ⟨i0, hi, hz0, hz1, hz2⟩ := info_parts T.hi
  obtain ⟨ad, c, rfl, hnil, hcell⟩ := hm
  cases ad with
  | none =>
    have hms : m = [] := by
      rcases hcell with hcell | ⟨_, _, e, _⟩
      · exact hcell
      · cases e
    subst hms
    obtain rfl := hnil.1 rfl
    refine wpList_append_own_none hgd s x T.st ho base T.et i0 E.k T.hu hi v l.length (flat E l) hs hown hx ?_
    exact h v w (by simpa using hown) (grown_refl _ _)
  | some ad =>
    refine wpList_append_own _ hgd s x T.st ho base T.et i0 T.z E.k T.bytes T.hu hi hz0 hz1 hz2 T.hz E.pos v l.length (flat E l) hs hown ad m.length c (flat E m) hx (flat_len m) ?_ (flat_one m) (by unfold maxLen; omega) hbb hbase ?_
    · intro j y hj
      rcases hcell with rfl | ⟨b, o, e, hr⟩
      · simp [flat] at hj
      · cases e
        have hjl : j < m.length * E.k := by
          rw [← flat_len (E := E)]
          rcases Nat.lt_or_ge j (flat E m).length with h | h
          · exact h
          · rw [List.getElem?_eq_none h] at hj; cases hj
        have hd : j / E.k < m.length := (Nat.div_lt_iff_lt_mul E.pos).2 hjl
        have hmd : j % E.k < E.k := Nat.mod_lt _ E.pos
        have hjj : j / E.k * E.k + j % E.k = j := Nat.div_add_mod' j E.k
        have hg := flat_get (E := E) m (j / E.k) (j % E.k) hd hmd
        rw [hjj, hj] at hg
        have := hr (j / E.k) hd (j % E.k) y hg.symm
        rw [add_at]
        rw [Nat.add_assoc, hjj] at this
        exact this
    · intro v' w' h1 h2 _
      refine h v' w' ?_ h2
      unfold OwnS
      rw [flat_app]
      simpa using h1
theorem appR (T : RowTy E) {w : World} {ops : Array Oper} {rest : List Oper} {o : Oper} {a : Act} {Q : Exit → Act → World → Prop} (hgd : o.guard = none) (s x : Operand)
    (ho : o.op = .call { callee := .builtin .append, args := #[s, x], argTypes := #[T.st, T.st] })
    (base : Nat) (v u : Value) (l m : List α) (hs : a.eval s = v) (hx : a.eval x = u)
    (hown : OwnS T w base v l) (hm : Sls E w u m) (hbase : base ≤ w.heap.size) (hlen : l.length + m.length ≤ 1000000000)
    (h : ∀ v' w', OwnS T w' base v' (l ++ m) → w.grownBy w' v.ownBlock → wpList Tryz.prog ops Q rest (a.put o.dst v') w') :
    wpList Tryz.prog ops Q (o :: rest) a w :=
  appRb T hgd s x ho base v u l m hs hx hown hm hbase (by omega) (by have h1 := Nat.mul_le_mul hlen T.hb; omega) h
/-- The same inside a region that draws (x is not nil). -/
theorem stepRb (T : RowTy E) {ops : Array Oper} {o : Oper} {a : Act} {w : World} {K : Act → World → Prop} {Q : Exit → Act → World → Prop} {F : Prop} (hg : o.guard = none) (s x : Operand)
    (hop : o.op = Op.call { callee := Callee.builtin Builtin.append, args := #[s, x], argTypes := #[T.st, T.st] }) (base : Nat) (v : Value) (ad : Addr) (n c : Nat) (l m : List α) (hs : a.eval s = v) (hx : a.eval x = .slice (some ad) n c)
    (hown : OwnS T w base v l) (hm : Sls E w (.slice (some ad) n c) m) (hbase : base ≤ w.heap.size) (hlen : l.length + m.length ≤ 4398046511104) (hbb : (l.length + m.length) * T.bytes ≤ 140737488355328)
    (h : ∀ v' w', OwnS T w' base v' (l ++ m) → w.grownBy w' v.ownBlock → K (a.put o.dst v') w') : if Region.wanted o (yielded ops a.tmps) = true then Oper.wp Tryz.prog o a w K Q else F := by
  have hw : Region.wanted o (yielded ops a.tmps) = true := by simp [Region.wanted, hg]
  rw [if_pos hw]
  obtain ⟨i0, hi, hz0, hz1, hz2⟩ := info_parts T.hi
  obtain ⟨a', c', e, hnil, hcell⟩ := hm
  cases e
  refine wp_append_own w s x T.st hop base T.et i0 T.z E.k T.bytes T.hu hi hz0 hz1 hz2 T.hz E.pos v l.length (flat E l) hs hown ad m.length c (flat E m) hx (flat_len m) ?_ (flat_one m) (by unfold maxLen; omega) hbb hbase ?_
  · intro j y hj
    rcases hcell with rfl | ⟨b, o, e, hr⟩
    · simp [flat] at hj
    · cases e
      have hjl : j < m.length * E.k := by
        rw [← flat_len (E := E)]
        rcases Nat.lt_or_ge j (flat E m).length with h | h
        · exact h
        · rw [List.getElem?_eq_none h] at hj; cases hj
      have hd : j / E.k < m.length := (Nat.div_lt_iff_lt_mul E.pos).2 hjl
      have hmd : j % E.k < E.k := Nat.mod_lt _ E.pos
      have hjj : j / E.k * E.k + j % E.k = j := Nat.div_add_mod' j E.k
      have hg := flat_get (E := E) m (j / E.k) (j % E.k) hd hmd
      rw [hjj, hj] at hg
      have := hr (j / E.k) hd (j % E.k) y hg.symm
      rw [add_at]
      rw [Nat.add_assoc, hjj] at this
      exact this
  · intro v' w' h1 h2 _
    refine h v' w' ?_ h2
    unfold OwnS
    rw [flat_app]
    simpa using h1
theorem stepR (T : RowTy E) {ops : Array Oper} {o : Oper} {a : Act} {w : World} {K : Act → World → Prop} {Q : Exit → Act → World → Prop} {F : Prop} (hg : o.guard = none) (s x : Operand)
    (hop : o.op = Op.call { callee := Callee.builtin Builtin.append, args := #[s, x], argTypes := #[T.st, T.st] }) (base : Nat) (v : Value) (ad : Addr) (n c : Nat) (l m : List α) (hs : a.eval s = v) (hx : a.eval x = .slice (some ad) n c)
    (hown : OwnS T w base v l) (hm : Sls E w (.slice (some ad) n c) m) (hbase : base ≤ w.heap.size) (hlen : l.length + m.length ≤ 1000000000)
    (h : ∀ v' w', OwnS T w' base v' (l ++ m) → w.grownBy w' v.ownBlock → K (a.put o.dst v') w') : if Region.wanted o (yielded ops a.tmps) = true then Oper.wp Tryz.prog o a w K Q else F :=
  stepRb T hg s x hop base v ad n c l m hs hx hown hm hbase (by omega) (by have h1 := Nat.mul_le_mul hlen T.hb; omega) h
/-- An empty slice that is not nil. -/
theorem own_empty (w : World) (base : Nat) (h : base ≤ w.heap.size) : OwnS T (w.alloc (.cells #[] T.et)) base (.slice (some ⟨w.heap.size, 0, none⟩) 0 0) [] := by
  exact ⟨by simp [flat], .inr ⟨w.heap.size, 0, #[], rfl, h, heap_new _ _, Nat.le_refl _, by unfold maxLen; omega, by simp, by simp [flat]⟩⟩
/-- One element in a new block of its own. -/
theorem sls_one (w : World) (x : α) (cs : Array Value) (ty : TypeId) (hcs : cs.toList = E.arr x) : Sls E (w.alloc (.cells cs ty)) (.slice (some ⟨w.heap.size, 0, none⟩) 1 1) [x] := by
  refine ⟨_, 1, rfl, ⟨(fun e => by cases e), Nat.le_refl _⟩, .inr ⟨w.heap.size, 0, rfl, fun t ht i u hu => ?_⟩⟩
  have : t = 0 := by simpa using ht
  subst this
  simp only [List.getD_cons_zero, ← hcs] at hu
  rw [show 0 + 0 * E.k + i = i by omega]
  simp only [World.cell?, heap_new]
  simpa using hu
end
/-! ### Grants, texts -/
/-- A grant. -/
structure Gr where
  kind : Int
  name : ByteArray
  level : Int
def gr0 : Gr := ⟨0, ⟨#[]⟩, 0⟩
def eGr : Enc Gr where
  arr a := [.int .i64 a.kind, .string a.name, .int .i64 a.level]
  d := gr0
  k := 3
  len _ := rfl
  one _ u hu := by simp at hu; rcases hu with rfl | rfl | rfl <;> rfl
  pos := by decide
def eTx : Enc ByteArray where
  arr a := [.string a]
  d := ⟨#[]⟩
  k := 1
  len _ := rfl
  one _ u hu := by simp at hu; subst hu; rfl
  pos := by decide
def TS : RowTy eTx where
  st := 136
  et := 9
  z := .string ⟨#[]⟩
  bytes := 16
  hu := Tryz.underlying136
  hi := by kernel_rfl
  hz := rfl
  hb := by decide
abbrev Grs := Sls eGr
abbrev Txs := Sls eTx
theorem at_gr {w : World} {b o : Nat} {a : Gr} (h : At eGr w b o a) : w.cell? ⟨b, o, none⟩ = some (.int .i64 a.kind) ∧ w.cell? ⟨b, o + 1, none⟩ = some (.string a.name) ∧ w.cell? ⟨b, o + 2, none⟩ = some (.int .i64 a.level) := ⟨h 0 _ rfl, h 1 _ rfl, h 2 _ rfl⟩
theorem at_tx {w : World} {b o : Nat} {a : ByteArray} (h : At eTx w b o a) : w.cell? ⟨b, o, none⟩ = some (.string a) := h 0 _ rfl
/-- The grant at place t. -/
theorem gr_at {w : World} {a : Option Addr} {n c : Nat} {l : List Gr} (h : Grs w (.slice a n c) l) (t : Nat) (ht : t < l.length) : ∃ b o, a = some ⟨b, o, none⟩ ∧ w.cell? ⟨b, o + t * 3, none⟩ = some (.int .i64 (l.getD t gr0).kind) ∧ w.cell? ⟨b, o + t * 3 + 1, none⟩ = some (.string (l.getD t gr0).name) ∧ w.cell? ⟨b, o + t * 3 + 2, none⟩ = some (.int .i64 (l.getD t gr0).level) := by
  obtain ⟨b, o, e, h⟩ := h.at t ht
  exact ⟨b, o, e, at_gr h⟩
theorem tx_at {w : World} {a : Option Addr} {n c : Nat} {l : List ByteArray} (h : Txs w (.slice a n c) l) (t : Nat) (ht : t < l.length) : ∃ b o, a = some ⟨b, o, none⟩ ∧ w.cell? ⟨b, o + t, none⟩ = some (.string (l.getD t ⟨#[]⟩)) := by
  obtain ⟨b, o, e, h⟩ := h.at t ht
  have := at_tx h
  rw [show t * eTx.k = t from Nat.mul_one t] at this
  exact ⟨b, o, e, this⟩
/-! ### Worlds in which all that lay lies unturned -/
structure Bel (w : World) where
  W : World
  h : Below w.heap.size w W
instance (w : World) : Nonempty (Bel w) := ⟨⟨w, Below.refl _ _⟩⟩
theorem wp_region_bel {P : Program} {id : Nat} {Q : Exit → Act → World → Prop} {a : Act} {w : World} {l : List Oper} (hm : P.follows .mixedOrders = true) (hB : Region.lexB .any l.toArray = true)
    (h : wpQuiet P l.toArray (fun w' => ∃ p : Bel w, w' = p.W) (fun a' => ∀ w', (∃ p : Bel w, w' = p.W) → Q .normal a' w') l a) : (Code.region id l.toArray true).wp P Q a w :=
  wp_region_quiet (C := fun w' => ∃ p : Bel w, w' = p.W) hm hB ⟨⟨w.drew, (Below.refl _ _).drew⟩, rfl⟩ (by simpa using h)
theorem Calls.bel {P : Program} {f : FuncId} {args : Array Value} {w : World} {p : Bel w} {v : Value}
    (h : Calls P f args p.W fun e w' => e = .returned v ∧ Below p.W.heap.size p.W w') : Calls P f args p.W fun e w'' => e = .returned v ∧ ∃ q : Bel w, w'' = q.W :=
  h.mono fun _ w' ⟨he, hb⟩ => ⟨he, ⟨w', p.h.trans (hb.mono p.h.size)⟩, rfl⟩
theorem Bel.cell {w : World} (p : Bel w) {b o : Nat} {v : Value} (h : w.cell? ⟨b, o, none⟩ = some v) : p.W.cell? ⟨b, o, none⟩ = some v :=
  (p.h.cell (p := ⟨b, o, none⟩) (World.block_lt_of_cell? w _ h)).trans h
theorem calls_alloc {P : Program} {f : FuncId} {args : Array Value} {W : World} {v : Value} {o : Obj} (h : Calls P f args W fun e w' => e = .returned v ∧ w' = W.alloc o) : Calls P f args W fun e w' => e = .returned v ∧ Below W.heap.size W w' :=
  h.mono fun _ _ ⟨he, hw⟩ => ⟨he, hw ▸ (Below.refl _ _).alloc (Nat.le_refl _) _⟩
theorem calls_same {P : Program} {f : FuncId} {args : Array Value} {W : World} {v : Value} (h : Calls P f args W fun e w' => e = .returned v ∧ w' = W) : Calls P f args W fun e w' => e = .returned v ∧ Below W.heap.size W w' :=
  h.mono fun _ _ ⟨he, hw⟩ => ⟨he, hw ▸ Below.refl _ _⟩
end Go.Proofs.YtiajafljgfpdcaaGreat.Q
/- The document's Reader: New, fail, number, Uint. -/
namespace Go.Proofs.YtiajafljgfpdcaaGreat.Q
set_option linter.unusedVariables false
open Go.RowKit
/-- What the document's number answers: the number, how many bytes it takes, the error. -/
def rrN (first : Bool) (n i : Nat) : List Int → Nat × Nat × Int
  | [] => (0, 0, 3)
  | c :: r => if first = true ∧ c = 128 then (0, 0, 10) else if 144115188075855871 < n then (0, 0, 11)
      else if c < 128 then (n * 128 + c.toNat % 128, i + 1, 0) else rrN false (n * 128 + c.toNat % 128) (i + 1) r
theorem rrN_of (bs : List Int) : ∀ (f : Bool) (n i m k : Nat), n ≤ 144115188075855871 → rdN f n i bs = (m, k, 0) → rrN f n i bs = (m, k, 0) := by
  induction bs with
  | nil => intro f n i m k _ h; simp [rdN] at h
  | cons c r ih =>
    intro f n i m k hn h
    rw [rdN] at h
    rw [rrN]
    by_cases h1 : f = true ∧ c = 128
    · rw [if_pos h1] at h; simp at h
    · rw [if_neg h1] at h ⊢
      rw [if_neg (by omega)]
      by_cases h2 : c < 128
      · rw [if_pos h2] at h ⊢; exact h
      · rw [if_neg h2] at h ⊢
        by_cases h3 : 144115188075855871 < n * 128 + c.toNat % 128
        · rw [if_pos h3] at h; simp at h
        · rw [if_neg h3] at h
          exact ih _ _ _ _ _ (by omega) h
theorem rrN_bounds (bs : List Int) : ∀ (f : Bool) (n i : Nat), n < 2 ^ 64 → (rrN f n i bs).1 < 2 ^ 64 ∧ ((rrN f n i bs).2.2 = 0 → i + 1 ≤ (rrN f n i bs).2.1 ∧ (rrN f n i bs).2.1 ≤ i + bs.length) := by
  induction bs with
  | nil => intro f n i _; simp [rrN]
  | cons c r ih =>
    intro f n i hn
    rw [rrN]
    by_cases h1 : f = true ∧ c = 128
    · rw [if_pos h1]; simp
    · rw [if_neg h1]
      by_cases h2 : 144115188075855871 < n
      · rw [if_pos h2]; simp
      · rw [if_neg h2]
        by_cases h3 : c < 128
        · rw [if_pos h3]; simp; omega
        · rw [if_neg h3]
          obtain ⟨a, b⟩ := ih false (n * 128 + c.toNat % 128) (i + 1) (by omega)
          refine ⟨a, fun h => ?_⟩
          have := b h
          simp only [List.length_cons]
          omega
theorem rrN_err (bs : List Int) : ∀ (f : Bool) (n i : Nat), (rrN f n i bs).2.2 = 0 ∨ (rrN f n i bs).2.2 = 3 ∨ (rrN f n i bs).2.2 = 10 ∨ (rrN f n i bs).2.2 = 11 := by
  induction bs with
  | nil => intro f n i; simp [rrN]
  | cons c r ih =>
    intro f n i
    rw [rrN]
    split
    · simp
    · split
      · simp
      · split
        · simp
        · exact ih _ _ _
/-- A Reader in block g: its bytes (in blocks from lo on, below g), its place, its error. -/
def IsRd (w : World) (lo g : Nat) (bs : List Int) (pl : Nat) (err : Int) : Prop :=
  ∃ a n c sp, w.heap[g]? = some (.cells #[.slice a n c, .int .i64 pl, .int .i64 err, .int .i64 sp] 112 (0, 0)) ∧ Bts w (.slice a n c) bs ∧ (lo ≤ g ∧ ∀ k, (Value.slice a n c).ownBlock = some k → lo ≤ k ∧ k < g) ∧ pl ≤ bs.length
theorem rd_cells {w : World} {g : Nat} {C : Array Value} (h : w.heap[g]? = some (.cells C 112 (0, 0))) (i : Nat) (v : Value) (hv : C[i]? = some v) : w.cell? ⟨g, i, none⟩ = some v ∧ w.frozen? ⟨g, i, none⟩ = false := by
  simp [World.cell?, World.frozen?, h, hv]
section
variable {w W : World} {lo g pl : Nat} {bs : List Int} {err : Int}
theorem IsRd.lt (hs : IsRd w lo g bs pl err) : g < w.heap.size := by
  obtain ⟨a, n, c, sp, hg, _⟩ := hs
  exact lt_of_block hg
theorem rd_stay (hs : IsRd w lo g bs pl err) (hW : Below w.heap.size w W) : IsRd W lo g bs pl err ∧ w.grownBy W (some g) := by
  have hlt := hs.lt
  obtain ⟨a, n, c, sp, hg, hb, hk, hpl⟩ := hs
  exact ⟨⟨a, n, c, sp, (hW.block g hlt).trans hg, hb.grow hW, hk, hpl⟩, grownBy_below hW _⟩
theorem rd_move (hs : IsRd w lo g bs pl err) (pl' : Nat) (h : pl' ≤ bs.length) : IsRd (w.setCell ⟨g, 1, none⟩ (.int .i64 pl')) lo g bs pl' err ∧ w.grownBy (w.setCell ⟨g, 1, none⟩ (.int .i64 pl')) (some g) := by
  obtain ⟨a, n, c, sp, hg, hb, hk, hpl⟩ := hs
  refine ⟨⟨a, n, c, sp, ?_, hb.other (Below.refl _ _) (fun k h => Nat.ne_of_lt (hk.2 k h).2), hk, h⟩, grownBy_set (Below.refl _ _) _ _ _⟩
  rw [block_setCell hg]; rfl
theorem grown_trans {w w1 w2 : World} {g : Option Nat} (h1 : w.grownBy w1 g) (h2 : w1.grownBy w2 g) : w.grownBy w2 g :=
  ⟨h2.os.trans h1.os, h2.tape.trans h1.tape, h2.output.trans h1.output, Nat.le_trans h1.size h2.size, fun k hk hne => (h2.block k (Nat.lt_of_lt_of_le hk h1.size) hne).trans (h1.block k hk hne)⟩
/-- A Reader stays while a block is written that is none of its own. -/
theorem rd_other {row : Nat} (hs : IsRd w lo g bs pl err) (hW : w.grownBy W (some row)) (hr : row < lo ∨ g < row) : IsRd W lo g bs pl err := by
  have hlt := hs.lt
  obtain ⟨a, n, c, sp, hg, hb, hk, hpl⟩ := hs
  refine ⟨a, n, c, sp, (hW.block g hlt (by simp; omega)).trans hg, ?_, hk, hpl⟩
  obtain ⟨a', c', e, hn, h1⟩ := hb
  cases e
  refine ⟨a, c, rfl, hn, ?_⟩
  rcases h1 with h1 | ⟨b, o, rfl, hr2⟩
  · exact .inl h1
  · refine .inr ⟨b, o, rfl, fun t h0 ht => ?_⟩
    have hbb := hk.2 b rfl
    exact hW.cell (hr2 t h0 ht) (by simp; omega)
end
set_option maxRecDepth 100000 in
set_option maxHeartbeats 1000000 in
/-- fail, where there is no error yet. -/
theorem rfail_ok (lo g : Nat) (bs : List Int) (pl : Nat) (er : Int) (p : Nat) (w : World) (hs : IsRd w lo g bs pl 0) (hp : p ≤ bs.length) :
    Calls Tryz.prog 95 #[.pointer (some ⟨g, 0, none⟩), .int .i64 er, .int .i64 p] w fun e w' => e = .returned (.tuple #[]) ∧ IsRd w' lo g bs p er ∧ w.grownBy w' (some g) := by
  obtain ⟨a, n, c, sp, hg, hb, hk, hpl⟩ := hs
  obtain ⟨c0, f0⟩ := rd_cells hg 0 _ rfl
  obtain ⟨c1, f1⟩ := rd_cells hg 1 _ rfl
  obtain ⟨c2, f2⟩ := rd_cells hg 2 _ rfl
  obtain ⟨c3, f3⟩ := rd_cells hg 3 _ rfl
  have hfin : Hid (IsRd (((w.setCell ⟨g, 2, none⟩ (.int .i64 er)).setCell ⟨g, 3, none⟩ (.int .i64 p)).setCell ⟨g, 1, none⟩ (.int .i64 p)) lo g bs p er ∧ w.grownBy (((w.setCell ⟨g, 2, none⟩ (.int .i64 er)).setCell ⟨g, 3, none⟩ (.int .i64 p)).setCell ⟨g, 1, none⟩ (.int .i64 p)) (some g)) := by
    have hne : ∀ k, (Value.slice a n c).ownBlock = some k → k ≠ g := fun k h => Nat.ne_of_lt (hk.2 k h).2
    refine ⟨⟨a, n, c, p, ?_, ?_, hk, hp⟩, ?_⟩
    · rw [block_setCell (block_setCell (block_setCell hg))]; rfl
    · have h1 := hb.other (i := 2) (u := .int .i64 er) (Below.refl _ w) hne
      have h2 := h1.other (i := 3) (u := .int .i64 (p : Int)) (Below.refl _ _) hne
      exact h2.other (i := 1) (u := .int .i64 (p : Int)) (Below.refl _ _) hne
    · exact grown_trans (grown_trans (grownBy_set (Below.refl _ _) _ _ _) (grownBy_set (Below.refl _ _) _ _ _)) (grownBy_set (Below.refl _ _) _ _ _)
  clear hg hb hk
  go_enter Tryz.func95, Tryz.ntmps95
  go_wp2
  go_end0
  exact ⟨rfl, hfin.out⟩
theorem Bts.at {w : World} {a : Option Addr} {n c : Nat} {bs : List Int} (h : Bts w (.slice a n c) bs) (i : Nat) (hi : i < bs.length) : ∃ b o, a = some ⟨b, o, none⟩ ∧ w.cell? ⟨b, o + i, none⟩ = some (.int .u8 (bs.getD i 0)) := by
  obtain ⟨a', c', e, _, h⟩ := h
  cases e
  rcases h with h | ⟨b, o, rfl, hr⟩
  · rw [h] at hi; simp at hi
  · exact ⟨b, o, rfl, hr i (Nat.zero_le _) hi⟩
theorem bts_len' {w : World} {a : Option Addr} {n c : Nat} {bs : List Int} (h : Bts w (.slice a n c) bs) : n = bs.length := by
  obtain ⟨a', c', e, _, h⟩ := h
  cases e; rfl
/-- Behind the document's reading of R from pl on, which was begun at p: the place. -/
def rnQ {α : Type} (pl p : Nat) (R : α × Nat × Int) : Nat := if R.2.2 = 0 then pl + R.2.1 else p
theorem rrN_at (bs : List Int) (pl k n : Nat) (x : Int) (hlt : pl + k < bs.length) (hx : x = bs.getD (pl + k) 0) (hr : rrN (decide (k = 0)) n k (bs.drop (pl + k)) = rrN true 0 0 (bs.drop pl)) :
    rrN true 0 0 (bs.drop pl) = if k = 0 ∧ x = 128 then (0, 0, 10) else if 144115188075855871 < n then (0, 0, 11) else if x < 128 then (n * 128 + x.toNat % 128, k + 1, 0) else rrN false (n * 128 + x.toNat % 128) (k + 1) (bs.drop (pl + k + 1)) := by
  rw [← hr, drop_at bs (pl + k) hlt, ← hx, rrN]; simp
set_option maxRecDepth 100000 in
set_option maxHeartbeats 4000000 in
theorem rnumber_ok (lo g : Nat) (bs : List Int) (pl p : Nat) (w : World) (hs : IsRd w lo g bs pl 0) (hby : IsBytes bs) (hlen : bs.length ≤ 1000000000) (hp : p ≤ bs.length) :
    Calls Tryz.prog 94 #[.pointer (some ⟨g, 0, none⟩), .int .i64 p] w fun e w' => e = .returned (.int .u64 ((rrN true 0 0 (bs.drop pl)).1 : Nat)) ∧ IsRd w' lo g bs (rnQ pl p (rrN true 0 0 (bs.drop pl))) (rrN true 0 0 (bs.drop pl)).2.2 ∧ w.grownBy w' (some g) := by
  have hF := fun er => rfail_ok lo g bs pl er p w hs hp
  have hmv := fun q h => rd_move hs q h
  have hpl : pl ≤ bs.length := by obtain ⟨_, _, _, _, _, _, _, h⟩ := hs; exact h
  obtain ⟨a, n0, c, sp, hg, hb, hk, _⟩ := hs
  obtain rfl := bts_len' hb
  obtain ⟨c0, f0⟩ := rd_cells hg 0 _ rfl
  obtain ⟨c1, f1⟩ := rd_cells hg 1 _ rfl
  obtain ⟨c2, f2⟩ := rd_cells hg 2 _ rfl
  replace hb : Hid (Bts w (.slice a bs.length c) bs) := hb
  replace hmv : Hid (∀ q, q ≤ bs.length → IsRd (w.setCell ⟨g, 1, none⟩ (.int .i64 q)) lo g bs q 0 ∧ w.grownBy (w.setCell ⟨g, 1, none⟩ (.int .i64 q)) (some g)) := hmv
  replace hby : Hid (IsBytes bs) := hby
  clear hg hk
  have hRb := rrN_bounds (bs.drop pl) true 0 0 (by decide)
  generalize hRR : rrN true 0 0 (bs.drop pl) = R at *
  replace hRb : Hid _ := hRb
  replace hF : Hid _ := hF
  go_enter Tryz.func94, Tryz.ntmps94
  go_wp2
  go_loop [5, 6] (fun x i => ∃ (k n : Nat), pl + k ≤ bs.length ∧ i = .int .i64 ((pl + k : Nat) : Int) ∧ x = .int .u64 n ∧ Hid (n < 2 ^ 64) ∧ Hid (rrN (decide (k = 0)) n k (bs.drop (pl + k)) = R))
    (fun _ i => bs.length - (intOf i).toNat)
  case atStart => exact ⟨0, 0, by omega, rfl, rfl, (by decide : (0 : Nat) < 2 ^ 64), (show _ = _ by simpa using hRR)⟩
  case round =>
    obtain ⟨k, n, hk, rfl, rfl, hn, hr⟩ := hrel
    by_cases hlt : pl + k < bs.length
    · obtain ⟨b, o, rfl, hc⟩ := hb.out.at (pl + k) hlt
      have hcb := hby.out _ (getD_mem bs 0 (pl + k) hlt)
      have HR := rrN_at bs pl k n (bs.getD (pl + k) 0) hlt rfl (by rw [hRR]; exact hr.out)
      rw [hRR] at HR
      generalize bs.getD (pl + k) 0 = x at *
      obtain ⟨y, hy⟩ : ∃ y, y = x.toNat % 128 := ⟨_, rfl⟩
      have hmx : x.tmod 128 = (y : Int) := by rw [hy, Int.tmod_eq_emod_of_nonneg hcb.1]; omega
      have hy128 : y < 128 := by omega
      rw [← hy] at HR
      replace hy : Hid _ := hy
      obtain ⟨m, hm⟩ : ∃ m, m = n * 128 + y := ⟨_, rfl⟩
      rw [← hm] at HR
      replace HR : Hid (_ = _) := HR
      have hI : ((pl + k : Nat) : Int) < (bs.length : Int) := by omega
      obtain ⟨i, hi⟩ : ∃ i, i = pl + k := ⟨_, rfl⟩
      have hi2 : Hid (i = pl + k) := hi
      rw [← hi] at hc hI hlt ⊢
      have hid : decide ((bs.length : Int) ≤ (i : Int)) = false := by simp; omega
      have hii : ¬ (bs.length : Int) ≤ (i : Int) := by omega
      by_cases h0 : k = 0
      · have hb0 : ((i : Int) == (pl : Int)) = true := by simp; omega
        by_cases h128 : x = 128
        · have e : (x == 128) = true := by simp [h128]
          replace HR : Hid (_ = _) := HR.out.trans (if_pos ⟨h0, h128⟩)
          clear hi h128 h0
          go_wp2_with (first | (go_at_call 95; refine (hF.out 10).mono ?_; rintro e w1 ⟨rfl, hI1, hg1⟩; replace hI1 : Hid _ := hI1; replace hg1 : Hid _ := hg1))
          go_ret
          exact ⟨by rw [HR.out]; rfl, by rw [HR.out]; exact hI1.out, hg1.out⟩
        · have e : (x == 128) = false := by simp [h128]
          replace HR : Hid (_ = _) := HR.out.trans (if_neg (fun h => h128 h.2))
          clear hi h128 h0
          by_cases hw : 144115188075855871 < n
          · replace HR : Hid (_ = _) := HR.out.trans (if_pos hw)
            go_wp2_with (first | (go_at_call 95; refine (hF.out 11).mono ?_; rintro e w1 ⟨rfl, hI1, hg1⟩; replace hI1 : Hid _ := hI1; replace hg1 : Hid _ := hg1))
            go_ret
            exact ⟨by rw [HR.out]; rfl, by rw [HR.out]; exact hI1.out, hg1.out⟩
          · replace HR : Hid (_ = _) := HR.out.trans (if_neg hw)
            have hm64 : m < 2 ^ 64 := by omega
            have hmi : (n : Int) * 128 + (y : Int) = (m : Int) := by omega
            replace hmi : Hid _ := hmi
            replace hm : Hid _ := hm
            by_cases hx128 : x < 128
            · replace HR : Hid (_ = _) := HR.out.trans (if_pos hx128)
              have hm2 := hmv.out (i + 1) (by omega)
              replace hm2 : Hid _ := hm2
              go_wp2
              go_ret
              refine ⟨by rw [HR.out]; show _ = Ending.returned (.int .u64 (m : Int)); rw [← hmi.out]; rfl, by rw [HR.out]; show IsRd _ _ _ _ (pl + (k + 1)) 0; rw [show pl + (k + 1) = i + 1 by have := hi2.out; omega]; exact hm2.out.1, hm2.out.2⟩
            · replace HR : Hid (_ = _) := HR.out.trans (if_neg hx128)
              go_wp2
              go_round
              case rel => exact ⟨k + 1, m, by have := hi2.out; omega, by have := hi2.out; go_num, by rw [← hmi.out], hm64, (show _ = _ by rw [HR.out, decide_eq_false (by omega)]; rfl)⟩
              case measure => simp [intOf]; omega
      · have hb0 : ((i : Int) == (pl : Int)) = false := by simp; omega
        replace HR : Hid (_ = _) := HR.out.trans (if_neg (fun h => h0 h.1))
        clear hi h0
        by_cases hw : 144115188075855871 < n
        · replace HR : Hid (_ = _) := HR.out.trans (if_pos hw)
          go_wp2_with (first | (go_at_call 95; refine (hF.out 11).mono ?_; rintro e w1 ⟨rfl, hI1, hg1⟩; replace hI1 : Hid _ := hI1; replace hg1 : Hid _ := hg1))
          go_ret
          exact ⟨by rw [HR.out]; rfl, by rw [HR.out]; exact hI1.out, hg1.out⟩
        · replace HR : Hid (_ = _) := HR.out.trans (if_neg hw)
          have hm64 : m < 2 ^ 64 := by omega
          have hmi : (n : Int) * 128 + (y : Int) = (m : Int) := by omega
          replace hmi : Hid _ := hmi
          replace hm : Hid _ := hm
          by_cases hx128 : x < 128
          · replace HR : Hid (_ = _) := HR.out.trans (if_pos hx128)
            have hm2 := hmv.out (i + 1) (by omega)
            replace hm2 : Hid _ := hm2
            go_wp2
            go_ret
            refine ⟨by rw [HR.out]; show _ = Ending.returned (.int .u64 (m : Int)); rw [← hmi.out]; rfl, by rw [HR.out]; show IsRd _ _ _ _ (pl + (k + 1)) 0; rw [show pl + (k + 1) = i + 1 by have := hi2.out; omega]; exact hm2.out.1, hm2.out.2⟩
          · replace HR : Hid (_ = _) := HR.out.trans (if_neg hx128)
            go_wp2
            go_round
            case rel => exact ⟨k + 1, m, by have := hi2.out; omega, by have := hi2.out; go_num, by rw [← hmi.out], hm64, (show _ = _ by rw [HR.out, decide_eq_false (by omega)]; rfl)⟩
            case measure => simp [intOf]; omega
    · have HR : Hid (R = (0, 0, 3)) := by
        show _ = _
        rw [← hr.out, List.drop_of_length_le (by omega)]; rfl
      obtain ⟨i, hi⟩ : ∃ i, i = pl + k := ⟨_, rfl⟩
      rw [← hi] at hlt hk ⊢
      have hid : decide ((bs.length : Int) ≤ (i : Int)) = true := by simp; omega
      have hii : (bs.length : Int) ≤ (i : Int) := by omega
      clear hi
      go_wp2_with (first | (go_at_call 95; refine (hF.out 3).mono ?_; rintro e w1 ⟨rfl, hI1, hg1⟩; replace hI1 : Hid _ := hI1; replace hg1 : Hid _ := hg1))
      go_ret
      exact ⟨by rw [HR.out]; rfl, by rw [HR.out]; exact hI1.out, hg1.out⟩
end Go.Proofs.YtiajafljgfpdcaaGreat.Q
/- One way: what is read is what is written of it; the bytes of numbers are in their order: the mathematics. -/
namespace Go.Proofs.YtiajafljgfpdcaaGreat.Q
open Go.RowKit
theorem rdN_inv (bs : List Int) : ∀ (f : Bool) (m i n sz : Nat), IsBytes bs → rdN f m i bs = (n, sz, 0) →
    ∃ k, sz = i + k + 1 ∧ k < bs.length ∧ bs.take (k + 1) = hi n k ++ [((n % 128 : Nat) : Int)] ∧ n / 128 ^ (k + 1) = m ∧ (f = true → k = 0 ∨ 0 < n / 128 ^ k % 128) := by
  induction bs with
  | nil => intro f m i n sz _ h; simp [rdN] at h
  | cons c r ih =>
    intro f m i n sz hby h
    have hc := hby c (by simp)
    rw [rdN] at h
    split at h
    · simp at h
    · rename_i hA
      split at h
      · rename_i hlt
        simp only [Prod.mk.injEq] at h
        obtain ⟨rfl, rfl, _⟩ := h
        refine ⟨0, by omega, by simp, ?_, by simp; omega, fun _ => .inl rfl⟩
        simp [hi]; omega
      · rename_i hge
        split at h
        · simp at h
        · obtain ⟨k, h1, h2, h3, h4, _⟩ := ih false _ (i + 1) n sz (fun x hx => hby x (by simp [hx])) h
          have hd : n / 128 ^ (k + 1) % 128 = c.toNat % 128 := by rw [h4]; omega
          refine ⟨k + 1, by omega, by simp; omega, ?_, ?_, fun hf => .inr ?_⟩
          · rw [List.take_succ_cons, h3, hi, List.cons_append, hd]
            congr 1; omega
          · rw [Nat.pow_succ, ← Nat.div_div_eq_div_mul, h4]; omega
          · rw [hd]
            have : c ≠ 128 := fun e => hA ⟨hf, e⟩
            omega
theorem ahead_zero : ahead 0 = 0 := by decide
theorem ahead_unique (n k : Nat) (h1 : n < 128 ^ (k + 1)) (h2 : k = 0 ∨ 128 ^ k ≤ n) : ahead n = k := by
  have a2 := lt_ahead n
  rcases Nat.lt_trichotomy (ahead n) k with h | h | h
  · rcases h2 with h2 | h2
    · omega
    · have := Nat.pow_le_pow_right (n := 128) (by omega) (show ahead n + 1 ≤ k by omega)
      omega
  · exact h
  · have hp : 0 < n := by
      rcases Nat.eq_zero_or_pos n with e | e
      · subst e; rw [ahead_zero] at h; omega
      · exact e
    have a1 := ahead_le n hp
    have := Nat.pow_le_pow_right (n := 128) (by omega) (show k + 1 ≤ ahead n by omega)
    omega
/-- Bytes that are read as a number are those that are written of it. -/
theorem rdN_least (bs : List Int) (hby : IsBytes bs) (n sz : Nat) (h : rdN true 0 0 bs = (n, sz, 0)) : bs.take sz = enc n := by
  obtain ⟨k, h1, h2, h3, h4, h5⟩ := rdN_inv bs true 0 0 n sz hby h
  have hp : 0 < 128 ^ (k + 1) := Nat.pos_of_ne_zero (by simp)
  have hlt : n < 128 ^ (k + 1) := by
    rcases Nat.lt_or_ge n (128 ^ (k + 1)) with h | h
    · exact h
    · have := Nat.div_pos h hp; omega
  have hk : ahead n = k := by
    refine ahead_unique n k hlt ?_
    rcases h5 rfl with h | h
    · exact .inl h
    · refine .inr ?_
      rcases Nat.lt_or_ge n (128 ^ k) with h' | h'
      · rw [Nat.div_eq_of_lt h'] at h; simp at h
      · exact h'
  rw [h1, show 0 + k + 1 = k + 1 by omega, h3, enc, hk]
theorem rdS_least (bs : List Int) (hby : IsBytes bs) (z : Int) (sz : Nat) (h : rdS bs = (z, sz, 0)) : bs.take sz = encS z ∧ -9223372036854775808 ≤ z ∧ z ≤ 9223372036854775807 := by
  cases bs with
  | nil => simp [rdS] at h
  | cons c r =>
    rw [rdS] at h
    split at h
    · rename_i hc
      have hbr : IsBytes r := fun x hx => hby x (by simp [hx])
      have hbd := rdN_bounds r true 0 0 (by omega)
      split at h
      · rename_i he
        obtain ⟨n, s, e⟩ : ∃ n s, rdN true 0 0 r = (n, s, 0) := ⟨(rdN true 0 0 r).1, (rdN true 0 0 r).2.1, by rw [← he]⟩
        rw [e] at h hbd
        have hl := rdN_least r hbr n s e
        simp only [Prod.mk.injEq] at h
        obtain ⟨h1, rfl, h3⟩ := h
        rw [show 1 + s = s + 1 by omega, List.take_succ_cons, hl]
        unfold wS at h1 h3
        rcases hc with rfl | rfl
        · rw [if_neg (by decide)] at h1 h3
          split at h3
          · simp at h3
          · rename_i hn
            rw [if_neg hn] at h1
            simp only at h1
            subst h1
            unfold encS
            rw [if_neg (by omega), Int.toNat_natCast]
            exact ⟨rfl, by omega, by omega⟩
        · rw [if_pos rfl] at h1 h3
          split at h3
          · simp at h3
          · rename_i hn
            rw [if_neg hn] at h1
            split at h3
            · simp at h3
            · rename_i hn2
              rw [if_neg hn2] at h1
              simp only at h1
              subst h1
              unfold encS
              rw [if_pos (by omega), Int.neg_neg, Int.toNat_natCast]
              exact ⟨rfl, by omega, by omega⟩
      · rename_i he
        simp only [Prod.mk.injEq] at h
        omega
    · simp at h

/-! ### The order -/
theorem less_cons (a b : UInt8) (x y : List UInt8) : Op.bytesLess (a :: x) (b :: y) = (decide (a < b) || (a == b && Op.bytesLess x y)) := by
  simp [Op.bytesLess]
def toB (xs : List Int) : List UInt8 := xs.map fun n => UInt8.ofNat n.toNat
theorem toB_cons (x : Int) (xs : List Int) : toB (x :: xs) = UInt8.ofNat x.toNat :: toB xs := rfl
theorem less_hi (a b : Nat) : ∀ k, a / 128 ^ (k + 1) = b / 128 ^ (k + 1) → Op.bytesLess (toB (hi a k ++ [((a % 128 : Nat) : Int)])) (toB (hi b k ++ [((b % 128 : Nat) : Int)])) = decide (a < b) := by
  intro k
  induction k with
  | zero =>
    intro h
    simp only [Nat.zero_add, Nat.pow_one] at h
    simp only [hi, List.nil_append, toB_cons, Int.toNat_natCast]
    rw [less_cons, show toB [] = [] from rfl, show Op.bytesLess [] [] = false from rfl, Bool.and_false, Bool.or_false]
    rw [decide_eq_decide, UInt8.lt_iff_toNat_lt]
    simp only [UInt8.toNat_ofNat']
    omega
  | succ k ih =>
    intro h
    have ha := div_step a (k + 1)
    have hb := div_step b (k + 1)
    simp only [hi, List.cons_append, toB_cons, Int.toNat_natCast]
    rw [less_cons]
    by_cases hd : a / 128 ^ (k + 1) % 128 = b / 128 ^ (k + 1) % 128
    · have he : a / 128 ^ (k + 1) = b / 128 ^ (k + 1) := by rw [← ha, ← hb, h, hd]
      rw [hd, ih he]
      simp
    · have hne : (UInt8.ofNat (a / 128 ^ (k + 1) % 128 + 128) == UInt8.ofNat (b / 128 ^ (k + 1) % 128 + 128)) = false := by
        simp only [beq_eq_false_iff_ne]
        intro e
        have := congrArg UInt8.toNat e
        simp only [UInt8.toNat_ofNat'] at this
        omega
      rw [hne, Bool.false_and, Bool.or_false, decide_eq_decide, UInt8.lt_iff_toNat_lt]
      simp only [UInt8.toNat_ofNat']
      have hp : 0 < 128 ^ (k + 1) := Nat.pos_of_ne_zero (by simp)
      have hq : a / 128 ^ (k + 1) < b / 128 ^ (k + 1) ↔ a / 128 ^ (k + 1) % 128 < b / 128 ^ (k + 1) % 128 := by rw [← ha, ← hb, h]; omega
      have hab : a / 128 ^ (k + 1) < b / 128 ^ (k + 1) → a < b := fun hl => by
        rcases Nat.lt_or_ge a b with h | h
        · exact h
        · have := Nat.div_le_div_right (c := 128 ^ (k + 1)) h; omega
      have hba : b / 128 ^ (k + 1) < a / 128 ^ (k + 1) → b < a := fun hl => by
        rcases Nat.lt_or_ge b a with h | h
        · exact h
        · have := Nat.div_le_div_right (c := 128 ^ (k + 1)) h; omega
      have hne2 : a / 128 ^ (k + 1) ≠ b / 128 ^ (k + 1) := fun e => hd (by rw [e])
      constructor
      · intro h1
        exact hab (hq.2 (by omega))
      · intro h1
        rcases Nat.lt_or_ge (a / 128 ^ (k + 1)) (b / 128 ^ (k + 1)) with h2 | h2
        · have := hq.1 h2; omega
        · have := hba (by omega); omega
/-- The bytes of two numbers with as many bytes are in their order. -/
theorem less_enc (a b : Nat) (h : (enc a).length = (enc b).length) : Op.bytesLess (strOfNums (enc a)).toList (strOfNums (enc b)).toList = decide (a < b) := by
  have hk : ahead a = ahead b := by rw [enc_length, enc_length] at h; omega
  have h1 := less_hi a b (ahead a) (by rw [Nat.div_eq_of_lt (lt_ahead a), hk, Nat.div_eq_of_lt (lt_ahead b)])
  have e : ∀ xs : List Int, (strOfNums xs).toList = toB xs := fun xs => Lib.strOfNums_toList xs
  rw [e, e, enc, enc, ← hk]
  exact h1
theorem len_enc (a b : Nat) (h : (enc a).length < (enc b).length) : a < b := by
  rw [enc_length, enc_length] at h
  have h1 := lt_ahead a
  have hp : 0 < b := by
    rcases Nat.eq_zero_or_pos b with e | e
    · subst e; rw [ahead_zero] at h; omega
    · exact e
  have h2 := ahead_le b hp
  have := Nat.pow_le_pow_right (n := 128) (by omega) (show ahead a + 1 ≤ ahead b by omega)
  omega
end Go.Proofs.YtiajafljgfpdcaaGreat.Q
/- The document's Reader: Uint, Text, Done, New. -/
namespace Go.Proofs.YtiajafljgfpdcaaGreat.Q
set_option linter.unusedVariables false
open Go.RowKit
theorem rrN_z (bs : List Int) : ∀ (f : Bool) (n i : Nat), (rrN f n i bs).2.2 ≠ 0 → (rrN f n i bs).1 = 0 := by
  induction bs with
  | nil => intro f n i _; rfl
  | cons c r ih =>
    intro f n i
    rw [rrN]
    split
    · intro _; rfl
    · split
      · intro _; rfl
      · split
        · intro h; exact absurd rfl h
        · exact ih _ _ _
set_option maxRecDepth 100000 in
set_option maxHeartbeats 1000000 in
theorem rnumber_bad (lo g : Nat) (bs : List Int) (pl p : Nat) (err : Int) (w : World) (hs : IsRd w lo g bs pl err) (he : err ≠ 0) :
    Calls Tryz.prog 94 #[.pointer (some ⟨g, 0, none⟩), .int .i64 p] w fun e w' => e = .returned (.int .u64 0) ∧ w' = w := by
  obtain ⟨a, n0, c, sp, hg, hb, hk, _⟩ := hs
  obtain ⟨c2, f2⟩ := rd_cells hg 2 _ rfl
  have heb : (err == 0) = false := by simpa using he
  clear hg hb hk
  go_enter Tryz.func94, Tryz.ntmps94
  go_wp2
  go_ret
  exact ⟨rfl, rfl⟩
/-- What a reading leaves: the place. -/
theorem nextP_ok {α : Type} (pl : Nat) (R : α × Nat × Int) : nextP pl 0 R = rnQ pl pl R := by unfold nextP rnQ; rw [if_pos rfl]
set_option maxRecDepth 100000 in
set_option maxHeartbeats 1000000 in
/-- Uint. -/
theorem ruint_any (lo g : Nat) (bs : List Int) (pl : Nat) (err : Int) (w : World) (hs : IsRd w lo g bs pl err) (hby : IsBytes bs) (hlen : bs.length ≤ 1000000000) :
    Calls Tryz.prog 58 #[.pointer (some ⟨g, 0, none⟩)] w fun e w' => e = .returned (.int .u64 ((nextV 0 err (rrN true 0 0 (bs.drop pl)) : Nat) : Int)) ∧ IsRd w' lo g bs (nextP pl err (rrN true 0 0 (bs.drop pl))) (nextE err (rrN true 0 0 (bs.drop pl))) ∧ w.grownBy w' (some g) := by
  have hpl : pl ≤ bs.length := by obtain ⟨_, _, _, _, _, _, _, h⟩ := hs; exact h
  by_cases he : err = 0
  · subst he
    have hN := rnumber_ok lo g bs pl pl w hs hby hlen hpl
    have hz := rrN_z (bs.drop pl) true 0 0
    rw [nextP_ok]
    have hv : nextV 0 0 (rrN true 0 0 (bs.drop pl)) = (rrN true 0 0 (bs.drop pl)).1 := by
      unfold nextV; rw [if_pos rfl]
      by_cases h : (rrN true 0 0 (bs.drop pl)).2.2 = 0
      · rw [if_pos h]
      · rw [if_neg h, hz h]
    have hE : nextE 0 (rrN true 0 0 (bs.drop pl)) = (rrN true 0 0 (bs.drop pl)).2.2 := by unfold nextE; rw [if_pos rfl]
    rw [hv, hE]
    obtain ⟨a, n0, c, sp, hg, hb, hk, _⟩ := hs
    obtain ⟨c1, f1⟩ := rd_cells hg 1 _ rfl
    clear hg hb hk hv hE hz
    generalize rrN true 0 0 (bs.drop pl) = R at *
    go_enter Tryz.func58, Tryz.ntmps58
    go_wp2_with (first | (go_at_call 94; refine hN.mono ?_; rintro e w1 ⟨rfl, hI1, hg1⟩; replace hI1 : Hid (IsRd w1 lo g bs (rnQ pl pl R) R.2.2) := hI1; replace hg1 : Hid _ := hg1))
    go_ret
    exact ⟨rfl, hI1.out, hg1.out⟩
  · have hN := rnumber_bad lo g bs pl pl err w hs he
    have hv : nextV 0 err (rrN true 0 0 (bs.drop pl)) = 0 := by unfold nextV; rw [if_neg he]
    have hP : nextP pl err (rrN true 0 0 (bs.drop pl)) = pl := by unfold nextP; rw [if_neg he]
    have hE : nextE err (rrN true 0 0 (bs.drop pl)) = err := by unfold nextE; rw [if_neg he]
    rw [hv, hP, hE]
    have hs2 : Hid (IsRd w lo g bs pl err) := hs
    obtain ⟨a, n0, c, sp, hg, hb, hk, _⟩ := hs
    obtain ⟨c1, f1⟩ := rd_cells hg 1 _ rfl
    clear hg hb hk hv hP hE he
    go_enter Tryz.func58, Tryz.ntmps58
    go_wp2_with (first | (go_at_call 94; refine hN.mono ?_; rintro e w1 ⟨rfl, hw1⟩; subst w1))
    go_ret
    exact ⟨rfl, hs2.out, grown_refl _ _⟩
/-- What the document's Text answers. -/
def rrT (most : Nat) (bs : List Int) : List Int × Nat × Int :=
  if (rrN true 0 0 bs).2.2 = 0 then
    (if most < (rrN true 0 0 bs).1 then ([], 0, 1) else if bs.length - (rrN true 0 0 bs).2.1 < (rrN true 0 0 bs).1 then ([], 0, 3)
      else ((bs.drop (rrN true 0 0 bs).2.1).take (rrN true 0 0 bs).1, (rrN true 0 0 bs).2.1 + (rrN true 0 0 bs).1, 0))
  else ([], 0, (rrN true 0 0 bs).2.2)
theorem rrT_encT (most : Nat) (s : ByteArray) (h : s.size ≤ most) (hs : s.size < 2 ^ 64) (rest : List Int) : rrT most (encT s ++ rest) = (numsS s, (encT s).length, 0) := by
  have h1 := rdN_enc s.size hs (numsS s ++ rest)
  have h2 := rrN_of _ _ _ _ _ _ (by decide) h1
  have e : encT s ++ rest = enc s.size ++ (numsS s ++ rest) := by unfold encT; simp
  unfold rrT
  rw [e, h2]
  simp only [if_true]
  rw [if_neg (by omega), if_neg (by simp [numsS_length]), List.drop_left, ← numsS_length s, List.take_left]
  unfold encT
  simp [numsS_length]
theorem rrT_size (most : Nat) (bs : List Int) : (rrT most bs).1.length ≤ most := by
  unfold rrT
  split
  · split
    · simp
    · split
      · simp
      · simp only [List.length_take]; omega
  · simp
theorem rrT_more (most : Nat) (bs : List Int) (h : (rrT most bs).2.2 = 0) : 1 ≤ (rrT most bs).2.1 ∧ (rrT most bs).2.1 ≤ bs.length := by
  have hb := (rrN_bounds bs true 0 0 (by decide)).2
  unfold rrT at *
  split at h
  · rename_i h0
    have := hb h0
    rw [if_pos h0]
    split at h
    · simp at h
    · split at h
      · simp at h
      · rw [if_neg (by assumption), if_neg (by assumption)]
        simp only
        omega
  · rename_i h0
    exact absurd h h0
/-- v[i:j]. -/
theorem slice_ij {w : World} {v : Value} {bs : List Int} (hb : Bts w v bs) (i j : Nat) (hij : i ≤ j) (hj : j ≤ bs.length) :
    ∃ v2, (∀ W, (Instr.slice 43 v (some (.int .i64 (i : Int))) (some (.int .i64 (j : Int))) none).run Tryz.prog W = .ok v2 W) ∧ Bts w v2 ((bs.drop i).take (j - i)) := by
  obtain ⟨a, c, rfl, ⟨hn, hc⟩, h1⟩ := hb
  refine ⟨sliced a i j c 1, fun W => ?_, ⟨if c = i then a else a.map (·.add (i * 1)), c - i, ?_, ⟨fun e => ?_, by simp; omega⟩, ?_⟩⟩
  · rw [run_slice_lh W 43 a bs.length c elem22 .i64 .i64 i j (by omega) (by omega) (by omega), size5]; simp [Result.andThen]
  · simp only [sliced, List.length_take, List.length_drop]; congr 1; omega
  · by_cases h : c = i
    · omega
    · rw [if_neg h] at e
      simp at e; have := hn e; omega
  · rcases h1 with rfl | ⟨b, o, rfl, hr⟩
    · exact .inl (by simp)
    · by_cases h : i = j
      · exact .inl (by simp [h])
      · refine .inr ⟨b, o + i, ?_, fun t _ ht => ?_⟩
        · rw [if_neg (by omega)]; simp [add_at]
        · rw [List.length_take, List.length_drop] at ht
          have := hr (i + t) (Nat.zero_le _) (by omega)
          rw [show o + i + t = o + (i + t) by omega, this]
          simp [show t < j - i by omega]
set_option maxRecDepth 100000 in
set_option maxHeartbeats 1000000 in
theorem rtext_bad (lo g : Nat) (bs : List Int) (pl most : Nat) (err : Int) (w : World) (hs : IsRd w lo g bs pl err) (hby : IsBytes bs) (hlen : bs.length ≤ 1000000000) (he : err ≠ 0) :
    Calls Tryz.prog 59 #[.pointer (some ⟨g, 0, none⟩), .int .i64 most] w fun e w' => e = .returned (.string ⟨#[]⟩) ∧ IsRd w' lo g bs pl err ∧ w.grownBy w' (some g) := by
  have hN := ruint_any lo g bs pl err w hs hby hlen
  have hv : nextV 0 err (rrN true 0 0 (bs.drop pl)) = 0 := by unfold nextV; rw [if_neg he]
  have hP : nextP pl err (rrN true 0 0 (bs.drop pl)) = pl := by unfold nextP; rw [if_neg he]
  have hE : nextE err (rrN true 0 0 (bs.drop pl)) = err := by unfold nextE; rw [if_neg he]
  rw [hv, hP, hE] at hN
  obtain ⟨a, n0, c, sp, hg, hb, hk, _⟩ := hs
  obtain ⟨c1, f1⟩ := rd_cells hg 1 _ rfl
  have heb : (err == 0) = false := by simpa using he
  clear hg hb hk hv hP hE he
  go_enter Tryz.func59, Tryz.ntmps59
  go_wp2_with (first | (go_at_call 58; refine hN.mono ?_; rintro e w1 ⟨rfl, hI1, hg1⟩; obtain ⟨a1, n1, c1', sp1, hh1, hb1, hk1, hp1⟩ := id hI1; have d2 := (rd_cells hh1 2 _ rfl).1; clear hh1 hb1 hk1 hp1; replace hI1 : Hid (IsRd w1 lo g bs pl err) := hI1; replace hg1 : Hid _ := hg1))
  go_ret
  exact ⟨rfl, hI1.out, hg1.out⟩
set_option maxRecDepth 100000 in
set_option maxHeartbeats 4000000 in
theorem rtext_ok (lo g : Nat) (bs : List Int) (pl most : Nat) (w : World) (hs : IsRd w lo g bs pl 0) (hby : IsBytes bs) (hlen : bs.length ≤ 1000000000) (hmost : most ≤ 1000000000) :
    Calls Tryz.prog 59 #[.pointer (some ⟨g, 0, none⟩), .int .i64 most] w fun e w' => e = .returned (.string (strOfNums (rrT most (bs.drop pl)).1)) ∧ IsRd w' lo g bs (rnQ pl pl (rrT most (bs.drop pl))) (rrT most (bs.drop pl)).2.2 ∧ w.grownBy w' (some g) := by
  have hpl : pl ≤ bs.length := by obtain ⟨_, _, _, _, _, _, _, h⟩ := hs; exact h
  have hN := ruint_any lo g bs pl 0 w hs hby hlen
  rw [nextP_ok] at hN
  have hE : nextE 0 (rrN true 0 0 (bs.drop pl)) = (rrN true 0 0 (bs.drop pl)).2.2 := by unfold nextE; rw [if_pos rfl]
  rw [hE] at hN
  obtain ⟨a, n0, c, sp, hg, hb, hk, _⟩ := hs
  obtain ⟨c1, f1⟩ := rd_cells hg 1 _ rfl
  clear hg hb hk hE
  have hRb := rrN_bounds (bs.drop pl) true 0 0 (by decide)
  have hT : Hid (rrT most (bs.drop pl) = if (rrN true 0 0 (bs.drop pl)).2.2 = 0 then (if most < (rrN true 0 0 (bs.drop pl)).1 then ([], 0, 1) else if (bs.drop pl).length - (rrN true 0 0 (bs.drop pl)).2.1 < (rrN true 0 0 (bs.drop pl)).1 then ([], 0, 3) else (((bs.drop pl).drop (rrN true 0 0 (bs.drop pl)).2.1).take (rrN true 0 0 (bs.drop pl)).1, (rrN true 0 0 (bs.drop pl)).2.1 + (rrN true 0 0 (bs.drop pl)).1, 0)) else ([], 0, (rrN true 0 0 (bs.drop pl)).2.2)) := rfl
  generalize rrT most (bs.drop pl) = T at *
  generalize hRR : rrN true 0 0 (bs.drop pl) = R at *
  obtain ⟨n, k, er⟩ := R
  simp only at hRb hT hN
  by_cases her : er = 0
  · subst her
    have hv : nextV 0 0 ((n, k, (0 : Int)) : Nat × Nat × Int) = n := by simp [nextV]
    have hq : rnQ pl pl ((n, k, (0 : Int)) : Nat × Nat × Int) = pl + k := by simp [rnQ]
    rw [hv, hq] at hN
    have hT2 := hT.out.trans (if_pos rfl)
    have hkb := hRb.2 rfl
    have hnb := hRb.1
    rw [List.length_drop] at hkb hT2
    clear hv hq hT hRR
    by_cases h1 : most < n
    · have hT3 : Hid (T = ([], 0, 1)) := hT2.trans (if_pos h1)
      have h1i : (most : Int) < (n : Int) := by omega
      clear hT2
      go_enter Tryz.func59, Tryz.ntmps59
      go_wp2_with (first
        | (go_at_call 58; refine hN.mono ?_; rintro e w1 ⟨rfl, hI1, hg1⟩; have hF1 := rfail_ok lo g bs (pl + k) 1 pl w1 hI1 hpl; obtain ⟨a1, n1, c1', sp1, hh1, hb1, hk1, hp1⟩ := id hI1; have d2 := (rd_cells hh1 2 _ rfl).1; clear hh1 hb1 hk1 hp1; replace hI1 : Hid (IsRd w1 lo g bs (pl + k) 0) := hI1; replace hg1 : Hid (w.grownBy w1 (some g)) := hg1)
        | (go_at_call 95; refine hF1.mono ?_; rintro e w2 ⟨rfl, hI2, hg2⟩; replace hI2 : Hid (IsRd w2 lo g bs pl 1) := hI2; replace hg2 : Hid (w1.grownBy w2 (some g)) := hg2))
      all_goals first
        | (exfalso; omega)
        | (go_ret
           exact ⟨by rw [hT3.out]; rfl, by rw [hT3.out]; exact hI2.out, grown_trans hg1.out hg2.out⟩)
    · have hT3 := hT2.trans (if_neg h1)
      have h1i : ¬ (most : Int) < (n : Int) := by omega
      clear hT2
      replace hT3 : Hid _ := hT3
      go_enter Tryz.func59, Tryz.ntmps59
      go_wp2_with (first
        | (go_at_call 58; refine hN.mono ?_; rintro e w1 ⟨rfl, hI1, hg1⟩; obtain ⟨a1, n1, c1', sp1, hh1, hb1, hk1, hp1⟩ := id hI1; have d2 := (rd_cells hh1 2 _ rfl).1; clear hh1 hb1 hk1 hp1; replace hI1 : Hid (IsRd w1 lo g bs (pl + k) 0) := hI1; replace hg1 : Hid (w.grownBy w1 (some g)) := hg1))
      all_goals try (exfalso; omega)
      obtain ⟨a1, n1, c1', sp1, hh1, hb1, hk1, hp1⟩ := hI1.out
      have e0 : ∀ p : Bel w1, p.W.cell? ⟨g, 0, none⟩ = some (.slice a1 n1 c1') := fun p => p.cell (rd_cells hh1 0 _ rfl).1
      have e1 : ∀ p : Bel w1, p.W.cell? ⟨g, 1, none⟩ = some (.int .i64 ((pl + k : Nat) : Int)) := fun p => p.cell (rd_cells hh1 1 _ rfl).1
      have hll : ∀ W, (Builtin.len_ #[43] 3 #[.slice a1 n1 c1']).run Tryz.prog W = .ok (.int .i64 (bs.length : Nat)) W := fun W => len_bts hb1 W
      obtain ⟨v, hv⟩ : ∃ v, v = Value.slice a1 n1 c1' := ⟨_, rfl⟩
      rw [← hv] at e0 hll
      have hbv : Hid (Bts w1 v bs) := by rw [hv]; exact hb1
      have hvk : Hid (∀ q, v.ownBlock = some q → q ≠ g) := fun q h => by rw [hv] at h; exact Nat.ne_of_lt (hk1.2 q h).2
      have hcv : Hid (w1.cell? ⟨g, 0, none⟩ = some v) := by rw [hv]; exact (rd_cells hh1 0 _ rfl).1
      clear hv hh1 hb1 hk1 hp1 d2
      obtain ⟨i, hi⟩ : ∃ i, i = pl + k := ⟨_, rfl⟩
      rw [← hi] at e1
      have hi2 : Hid (i = pl + k) := hi
      have hil : i ≤ bs.length := by omega
      have hsb : IntKind.u64.wrap (((bs.length : Nat) : Int) - (i : Int)) = ((bs.length - i : Nat) : Int) := by
        simp only [IntKind.wrap, IntKind.bits, IntKind.signed]; simp; omega
      by_cases h2 : bs.length - pl - k < n
      · have hT4 : Hid (T = ([], 0, 3)) := hT3.out.trans (if_pos h2)
        have h2i : ((bs.length - i : Nat) : Int) < (n : Int) := by omega
        have h2d : decide (((bs.length - i : Nat) : Int) < (n : Int)) = true := by simpa using h2i
        clear hi hT3
        refine wp_region_bel (by kernel_rfl) (by kernel_rfl) ?_
        repeat (go_big_quiet_step (fail))
        refine wpQuiet_nil ?_
        rintro wq ⟨p, hp⟩
        have hq : Below w1.heap.size w1 wq := by rw [hp]; exact p.h
        clear hp
        have hI2 := (rd_stay hI1.out hq).1
        have hF1 := rfail_ok lo g bs (pl + k) 3 pl wq hI2 hpl
        have hgq : Hid (w.grownBy wq (some g)) := grown_trans hg1.out (grownBy_below hq _)
        replace hI2 : Hid _ := hI2
        go_wp2_with (first
          | (go_at_call 95; refine hF1.mono ?_; rintro e w2 ⟨rfl, hI3, hg3⟩; replace hI3 : Hid (IsRd w2 lo g bs pl 3) := hI3; replace hg3 : Hid (wq.grownBy w2 (some g)) := hg3))
        go_ret
        exact ⟨by rw [hT4.out]; rfl, by rw [hT4.out]; exact hI3.out, grown_trans hgq.out hg3.out⟩
      · have hT4 : Hid (T = _) := hT3.out.trans (if_neg h2)
        have h2i : ¬ ((bs.length - i : Nat) : Int) < (n : Int) := by omega
        have h2d : decide (((bs.length - i : Nat) : Int) < (n : Int)) = false := by simpa using h2i
        clear hi hT3
        refine wp_region_bel (by kernel_rfl) (by kernel_rfl) ?_
        repeat (go_big_quiet_step (fail))
        refine wpQuiet_nil ?_
        rintro wq ⟨p, hp⟩
        have hq : Below w1.heap.size w1 wq := by rw [hp]; exact p.h
        clear hp
        obtain ⟨hI2, _⟩ := rd_stay hI1.out hq
        have hgq : Hid (w.grownBy wq (some g)) := grown_trans hg1.out (grownBy_below hq _)
        have hcq : wq.cell? ⟨g, 0, none⟩ = some v := (hq.cell (p := ⟨g, 0, none⟩) (World.block_lt_of_cell? w1 _ hcv.out)).trans hcv.out
        have hbq : Bts wq v bs := hbv.out.grow hq
        obtain ⟨a2, n2, c2', sp2, hh2, hb2, hk2, hp2⟩ := id hI2
        have q1 := (rd_cells hh2 1 _ rfl).1
        have q1f := (rd_cells hh2 1 _ rfl).2
        replace q1 : wq.cell? ⟨g, 1, none⟩ = some (.int .i64 (i : Int)) := by rw [q1, hi2.out]; rfl
        have hv2 : Value.slice a2 n2 c2' = v := by
          have := (rd_cells hh2 0 _ rfl).1
          rw [hcq] at this
          exact (Option.some.inj this).symm
        have hW2 := block_setCell (i := 1) (u := .int .i64 ((i : Int) + (n : Int))) hh2
        have m0 : (wq.setCell ⟨g, 1, none⟩ (.int .i64 ((i : Int) + (n : Int)))).cell? ⟨g, 0, none⟩ = some v := by
          have := (rd_cells hW2 0 _ rfl).1
          rw [← hv2]; exact this
        have m1 : (wq.setCell ⟨g, 1, none⟩ (.int .i64 ((i : Int) + (n : Int)))).cell? ⟨g, 1, none⟩ = some (.int .i64 ((i : Int) + (n : Int))) := (rd_cells hW2 1 _ rfl).1
        clear hh2 hb2 hk2 hp2 e0 e1 hW2 hv2
        have hmv := rd_move hI2 (i + n) (by omega)
        have hbm : Bts (wq.setCell ⟨g, 1, none⟩ (.int .i64 ((i : Int) + (n : Int)))) v bs := hbq.other (Below.refl _ _) hvk.out
        obtain ⟨v2, hsl, hbs2⟩ := slice_ij hbm i (i + n) (by omega) (by omega)
        replace hsl : ∀ W, (Instr.slice 43 v (some (.int .i64 (i : Int))) (some (.int .i64 ((i : Int) + (n : Int)))) none).run Tryz.prog W = .ok v2 W := hsl
        have hsub : (i : Int) + (n : Int) - (n : Int) = (i : Int) := by omega
        have hfin : Hid (IsRd (wq.setCell ⟨g, 1, none⟩ (.int .i64 ((i : Int) + (n : Int)))) lo g bs (i + n) 0 ∧ w.grownBy (wq.setCell ⟨g, 1, none⟩ (.int .i64 ((i : Int) + (n : Int)))) (some g)) := ⟨hmv.1, grown_trans hgq.out hmv.2⟩
        clear hmv hcq hbq
        have z0 : ∀ p : Bel (wq.setCell ⟨g, 1, none⟩ (.int .i64 ((i : Int) + (n : Int)))), p.W.cell? ⟨g, 0, none⟩ = some v := fun p => p.cell m0
        have z1 : ∀ p : Bel (wq.setCell ⟨g, 1, none⟩ (.int .i64 ((i : Int) + (n : Int)))), p.W.cell? ⟨g, 1, none⟩ = some (.int .i64 ((i : Int) + (n : Int))) := fun p => p.cell m1
        have zc : ∀ p : Bel (wq.setCell ⟨g, 1, none⟩ (.int .i64 ((i : Int) + (n : Int)))), (convert 43 9 v2).run Tryz.prog p.W = .ok (.string (strOfNums ((bs.drop i).take (i + n - i)))) p.W := fun p => conv_str (hbs2.grow p.h)
        generalize hS : strOfNums ((bs.drop i).take (i + n - i)) = S at zc
        replace hS : Hid _ := hS
        clear hbs2 hbm m0 m1
        replace hI2 : Hid _ := hI2
        go_wp2
        refine wp_region_bel (by kernel_rfl) (by kernel_rfl) ?_
        repeat (go_big_quiet_step (fail))
        refine wpQuiet_nil ?_
        rintro w5 ⟨p, hp⟩
        have hq5 : Below (wq.setCell ⟨g, 1, none⟩ (.int .i64 ((i : Int) + (n : Int)))).heap.size (wq.setCell ⟨g, 1, none⟩ (.int .i64 ((i : Int) + (n : Int)))) w5 := by rw [hp]; exact p.h
        clear hp
        obtain ⟨hI5, hg5⟩ := rd_stay hfin.out.1 hq5
        have hg6 : Hid (w.grownBy w5 (some g)) := grown_trans hfin.out.2 hg5
        replace hI5 : Hid (IsRd w5 lo g bs (i + n) 0) := hI5
        go_wp2
        go_ret
        refine ⟨?_, ?_, hg6.out⟩
        · rw [hT4.out]
          show Ending.returned (.string S) = _
          rw [← hS.out, show i + n - i = n by omega, hi2.out, List.drop_drop]
        · rw [hT4.out]
          show IsRd w5 lo g bs (pl + (k + n)) 0
          rw [show pl + (k + n) = i + n by have := hi2.out; omega]
          exact hI5.out
  · have hT3 : Hid (T = ([], 0, er)) := hT.out.trans (if_neg her)
    have hq : rnQ pl pl ((n, k, er) : Nat × Nat × Int) = pl := by simp [rnQ, her]
    rw [hq] at hN
    generalize nextV 0 0 ((n, k, er) : Nat × Nat × Int) = N at *
    have heb : (er == 0) = false := by simpa using her
    replace her : Hid (¬ er = 0) := her
    clear hT hRb hRR hq
    go_enter Tryz.func59, Tryz.ntmps59
    go_wp2_with (first
      | (go_at_call 58; refine hN.mono ?_; rintro e w1 ⟨rfl, hI1, hg1⟩; obtain ⟨a1, n1, c1', sp1, hh1, hb1, hk1, hp1⟩ := id hI1; have d2 := (rd_cells hh1 2 _ rfl).1; clear hh1 hb1 hk1 hp1; replace hI1 : Hid (IsRd w1 lo g bs pl er) := hI1; replace hg1 : Hid _ := hg1))
    go_ret
    exact ⟨by rw [hT3.out]; rfl, by rw [hT3.out, show rnQ pl pl (([], 0, er) : List Int × Nat × Int) = pl by simp [rnQ, her.out]]; exact hI1.out, hg1.out⟩
/-- Text. -/
theorem rtext_any (lo g : Nat) (bs : List Int) (pl most : Nat) (err : Int) (w : World) (hs : IsRd w lo g bs pl err) (hby : IsBytes bs) (hlen : bs.length ≤ 1000000000) (hmost : most ≤ 1000000000) :
    Calls Tryz.prog 59 #[.pointer (some ⟨g, 0, none⟩), .int .i64 most] w fun e w' => e = .returned (.string (strOfNums (nextV [] err (rrT most (bs.drop pl))))) ∧ IsRd w' lo g bs (nextP pl err (rrT most (bs.drop pl))) (nextE err (rrT most (bs.drop pl))) ∧ w.grownBy w' (some g) := by
  by_cases he : err = 0
  · subst he
    have hv : nextV [] 0 (rrT most (bs.drop pl)) = (rrT most (bs.drop pl)).1 := by
      unfold nextV; rw [if_pos rfl]
      by_cases h : (rrT most (bs.drop pl)).2.2 = 0
      · rw [if_pos h]
      · rw [if_neg h]
        unfold rrT at *
        split
        · rename_i h0
          rw [if_pos h0] at h
          split
          · rfl
          · split
            · rfl
            · rename_i h1 h2
              rw [if_neg h1, if_neg h2] at h
              exact absurd rfl h
        · rfl
    have hE : nextE 0 (rrT most (bs.drop pl)) = (rrT most (bs.drop pl)).2.2 := by unfold nextE; rw [if_pos rfl]
    rw [nextP_ok, hv, hE]
    exact rtext_ok lo g bs pl most w hs hby hlen hmost
  · have hv : nextV [] err (rrT most (bs.drop pl)) = [] := by unfold nextV; rw [if_neg he]
    have hP : nextP pl err (rrT most (bs.drop pl)) = pl := by unfold nextP; rw [if_neg he]
    have hE : nextE err (rrT most (bs.drop pl)) = err := by unfold nextE; rw [if_neg he]
    rw [hv, hP, hE]
    exact rtext_bad lo g bs pl most err w hs hby hlen he
set_option maxRecDepth 100000 in
set_option maxHeartbeats 1000000 in
/-- Done. -/
theorem rdone_any (lo g : Nat) (bs : List Int) (pl : Nat) (err : Int) (w : World) (hs : IsRd w lo g bs pl err) (hlen : bs.length ≤ 1000000000) :
    Calls Tryz.prog 61 #[.pointer (some ⟨g, 0, none⟩)] w fun e w' => e = .returned (.int .i64 (if err = 0 then (if pl < bs.length then 4 else 0) else err)) ∧ Below w.heap.size w w' := by
  obtain ⟨a, n0, c, sp, hg, hb, hk, hpl⟩ := hs
  obtain rfl := bts_len' hb
  have e0 : ∀ p : Bel w, p.W.cell? ⟨g, 0, none⟩ = some (.slice a bs.length c) := fun p => p.cell (rd_cells hg 0 _ rfl).1
  have e1 : ∀ p : Bel w, p.W.cell? ⟨g, 1, none⟩ = some (.int .i64 (pl : Int)) := fun p => p.cell (rd_cells hg 1 _ rfl).1
  have e2 : ∀ p : Bel w, p.W.cell? ⟨g, 2, none⟩ = some (.int .i64 err) := fun p => p.cell (rd_cells hg 2 _ rfl).1
  have f2 : Hid (∀ W, Below w.heap.size w W → W.cell? ⟨g, 2, none⟩ = some (.int .i64 err)) := fun W h => (⟨W, h⟩ : Bel w).cell (rd_cells hg 2 _ rfl).1
  clear hg hb hk
  generalize hX : (if err = 0 then (if pl < bs.length then (4 : Int) else 0) else err) = X
  rcases Bool.eq_false_or_eq_true (err == 0) with he | he
  · have he0 : Hid (err = 0) := by show _ = _; simpa using he
    rw [if_pos he0.out] at hX
    by_cases h1 : pl < bs.length
    · rw [if_pos h1] at hX
      have h1i : (pl : Int) < (bs.length : Int) := by omega
      have h1d : decide ((pl : Int) < (bs.length : Int)) = true := by simpa using h1i
      replace hX : Hid _ := hX
      go_enter Tryz.func61, Tryz.ntmps61
      go_wp2
      refine wp_region_bel (by kernel_rfl) (by kernel_rfl) ?_
      repeat (go_big_quiet_step (fail))
      refine wpQuiet_nil ?_
      rintro wq ⟨p, hp⟩
      have hq : Below w.heap.size w wq := by rw [hp]; exact p.h
      clear hp
      go_wp2
      go_ret
      exact ⟨by rw [← hX.out]; rfl, hq⟩
    · rw [if_neg h1] at hX
      have h1i : ¬ (pl : Int) < (bs.length : Int) := by omega
      have h1d : decide ((pl : Int) < (bs.length : Int)) = false := by simpa using h1i
      replace hX : Hid _ := hX
      go_enter Tryz.func61, Tryz.ntmps61
      go_wp2
      refine wp_region_bel (by kernel_rfl) (by kernel_rfl) ?_
      repeat (go_big_quiet_step (fail))
      refine wpQuiet_nil ?_
      rintro wq ⟨p, hp⟩
      have hq : Below w.heap.size w wq := by rw [hp]; exact p.h
      clear hp
      have q2 := f2.out wq hq
      go_wp2
      go_ret
      exact ⟨by rw [← hX.out, ← he0.out]; rfl, hq⟩
  · have he0 : ¬ err = 0 := by simpa using he
    rw [if_neg he0] at hX
    replace hX : Hid _ := hX
    clear he0
    go_enter Tryz.func61, Tryz.ntmps61
    go_wp2
    refine wp_region_bel (by kernel_rfl) (by kernel_rfl) ?_
    repeat (go_big_quiet_step (fail))
    refine wpQuiet_nil ?_
    rintro wq ⟨p, hp⟩
    have hq : Below w.heap.size w wq := by rw [hp]; exact p.h
    clear hp
    have q2 := f2.out wq hq
    go_wp2
    go_ret
    exact ⟨by rw [← hX.out]; rfl, hq⟩
end Go.Proofs.YtiajafljgfpdcaaGreat.Q
/- The document's Reader: Int, New. -/
namespace Go.Proofs.YtiajafljgfpdcaaGreat.Q
set_option linter.unusedVariables false
open Go.RowKit
/-- What the document's Int answers. -/
def rrS : List Int → Int × Nat × Int
  | [] => (0, 0, 3)
  | c :: r => if c = 43 ∨ c = 45 then (if (rrN true 0 0 r).2.2 = 0 then ((wS c (rrN true 0 0 r).1).1, 1 + (rrN true 0 0 r).2.1, (wS c (rrN true 0 0 r).1).2) else (0, 0, (rrN true 0 0 r).2.2)) else (0, 0, 10)
theorem rrS_of (bs : List Int) (z : Int) (k : Nat) (h : rdS bs = (z, k, 0)) : rrS bs = (z, k, 0) := by
  cases bs with
  | nil => simp [rdS] at h
  | cons c r =>
    rw [rdS] at h
    rw [rrS]
    by_cases h1 : c = 43 ∨ c = 45
    · rw [if_pos h1] at h ⊢
      by_cases h2 : (rdN true 0 0 r).2.2 = 0
      · rw [if_pos h2] at h
        obtain ⟨n, m, e⟩ : ∃ n m, rdN true 0 0 r = (n, m, 0) := ⟨_, _, by rw [← h2]⟩
        have e2 := rrN_of r true 0 0 n m (by decide) e
        rw [e] at h
        rw [e2, if_pos rfl]
        exact h
      · rw [if_neg h2] at h
        simp only [Prod.mk.injEq] at h
        exact absurd h.2.2 h2
    · rw [if_neg h1] at h
      simp at h
theorem rrS_encS (z : Int) (h1 : -9223372036854775808 ≤ z) (h2 : z ≤ 9223372036854775807) (rest : List Int) : rrS (encS z ++ rest) = (z, (encS z).length, 0) := rrS_of _ _ _ (rdS_encS z h1 h2 rest)
theorem wS_in (c : Int) (n : Nat) : -9223372036854775808 ≤ (wS c n).1 ∧ (wS c n).1 ≤ 9223372036854775807 := by
  unfold wS
  split <;> split <;> (try split) <;> simp <;> omega
theorem rrS_in (bs : List Int) : -9223372036854775808 ≤ (rrS bs).1 ∧ (rrS bs).1 ≤ 9223372036854775807 := by
  cases bs with
  | nil => simp [rrS]
  | cons c r =>
    rw [rrS]
    split
    · split
      · exact wS_in _ _
      · simp
    · simp
theorem wS_z (c : Int) (n : Nat) (h : (wS c n).2 ≠ 0) : (wS c n).1 = 0 := by
  unfold wS at *
  split
  · rename_i hc
    rw [if_pos hc] at h
    split
    · rfl
    · rename_i h0
      rw [if_neg h0] at h
      split
      · rfl
      · rename_i h1
        rw [if_neg h1] at h
        exact absurd rfl h
  · rename_i hc
    rw [if_neg hc] at h
    split
    · rfl
    · rename_i h1
      rw [if_neg h1] at h
      exact absurd rfl h
theorem rrS_z (bs : List Int) (h : (rrS bs).2.2 ≠ 0) : (rrS bs).1 = 0 := by
  cases bs with
  | nil => rfl
  | cons c r =>
    rw [rrS] at *
    split
    · rename_i h1
      rw [if_pos h1] at h
      split
      · rename_i h2
        rw [if_pos h2] at h
        exact wS_z _ _ h
      · rfl
    · rfl
theorem rrS_more (bs : List Int) (h : (rrS bs).2.2 = 0) : 1 ≤ (rrS bs).2.1 ∧ (rrS bs).2.1 ≤ bs.length := by
  cases bs with
  | nil => simp [rrS] at h
  | cons c r =>
    have hb := (rrN_bounds r true 0 0 (by decide)).2
    rw [rrS] at *
    split
    · rename_i h1
      rw [if_pos h1] at h
      split
      · rename_i h2
        have := hb h2
        simp only [List.length_cons]
        omega
      · rename_i h2
        rw [if_neg h2] at h
        exact absurd h h2
    · rename_i h1
      rw [if_neg h1] at h
      simp at h
set_option maxRecDepth 100000 in
set_option maxHeartbeats 1000000 in
theorem rint_bad (lo g : Nat) (bs : List Int) (pl : Nat) (err : Int) (w : World) (hs : IsRd w lo g bs pl err) (he : err ≠ 0) :
    Calls Tryz.prog 60 #[.pointer (some ⟨g, 0, none⟩)] w fun e w' => e = .returned (.int .i64 0) ∧ w' = w := by
  obtain ⟨a, n0, c, sp, hg, hb, hk, _⟩ := hs
  obtain ⟨c1, f1⟩ := rd_cells hg 1 _ rfl
  obtain ⟨c2, f2⟩ := rd_cells hg 2 _ rfl
  have heb : (err == 0) = false := by simpa using he
  clear hg hb hk
  go_enter Tryz.func60, Tryz.ntmps60
  go_wp2
  go_ret
  exact ⟨rfl, rfl⟩
set_option maxRecDepth 100000 in
set_option maxHeartbeats 8000000 in
theorem rint_ok (lo g : Nat) (bs : List Int) (pl : Nat) (w : World) (hs : IsRd w lo g bs pl 0) (hby : IsBytes bs) (hlen : bs.length ≤ 1000000000) :
    Calls Tryz.prog 60 #[.pointer (some ⟨g, 0, none⟩)] w fun e w' => e = .returned (.int .i64 (rrS (bs.drop pl)).1) ∧ IsRd w' lo g bs (rnQ pl pl (rrS (bs.drop pl))) (rrS (bs.drop pl)).2.2 ∧ w.grownBy w' (some g) := by
  have hpl : pl ≤ bs.length := by obtain ⟨_, _, _, _, _, _, _, h⟩ := hs; exact h
  have hF := fun er => rfail_ok lo g bs pl er pl w hs hpl
  have hsI : Hid (IsRd w lo g bs pl 0) := hs
  obtain ⟨a, n0, c, sp, hg, hb, hk, _⟩ := hs
  obtain rfl := bts_len' hb
  obtain ⟨c0, f0⟩ := rd_cells hg 0 _ rfl
  obtain ⟨c1, f1⟩ := rd_cells hg 1 _ rfl
  obtain ⟨c2, f2⟩ := rd_cells hg 2 _ rfl
  replace hF : Hid _ := hF
  by_cases hlt : pl < bs.length
  · obtain ⟨b, o, rfl, hc⟩ := hb.at pl hlt
    have hcb := hby _ (getD_mem bs 0 pl hlt)
    have hT : Hid (rrS (bs.drop pl) = if bs.getD pl 0 = 43 ∨ bs.getD pl 0 = 45 then (if (rrN true 0 0 (bs.drop (pl + 1))).2.2 = 0 then ((wS (bs.getD pl 0) (rrN true 0 0 (bs.drop (pl + 1))).1).1, 1 + (rrN true 0 0 (bs.drop (pl + 1))).2.1, (wS (bs.getD pl 0) (rrN true 0 0 (bs.drop (pl + 1))).1).2) else (0, 0, (rrN true 0 0 (bs.drop (pl + 1))).2.2)) else (0, 0, 10)) := by
      show _ = _
      rw [drop_at bs pl hlt, rrS]
    generalize rrS (bs.drop pl) = T at *
    generalize bs.getD pl 0 = x at *
    have hli : (pl : Int) < (bs.length : Int) := by omega
    have hlj : ¬ (bs.length : Int) ≤ (pl : Int) := by omega
    have hld : decide ((bs.length : Int) ≤ (pl : Int)) = false := by simp; omega
    by_cases hx : x = 43 ∨ x = 45
    · have hT2 := hT.out.trans (if_pos hx)
      have hm2 := rd_move hsI.out (pl + 1) (by omega)
      have hN := rnumber_ok lo g bs (pl + 1) pl _ hm2.1 hby hlen hpl
      have hmg := hm2.2
      replace hmg : Hid (w.grownBy (w.setCell ⟨g, 1, none⟩ (.int .i64 ((pl + 1 : Nat) : Int))) (some g)) := hmg
      have hRb := rrN_bounds (bs.drop (pl + 1)) true 0 0 (by decide)
      clear hT hm2 hg hb hk hby
      generalize hRR : rrN true 0 0 (bs.drop (pl + 1)) = R at *
      obtain ⟨n, k, er⟩ := R
      simp only at hT2 hRb hN
      replace hN : Calls Tryz.prog 94 #[.pointer (some ⟨g, 0, none⟩), .int .i64 pl] (w.setCell ⟨g, 1, none⟩ (.int .i64 ((pl : Int) + 1))) fun e w' => e = .returned (.int .u64 (n : Nat)) ∧ IsRd w' lo g bs (rnQ (pl + 1) pl ((n, k, er) : Nat × Nat × Int)) er ∧ (w.setCell ⟨g, 1, none⟩ (.int .i64 ((pl : Int) + 1))).grownBy w' (some g) := hN
      replace hmg : Hid (w.grownBy (w.setCell ⟨g, 1, none⟩ (.int .i64 ((pl : Int) + 1))) (some g)) := hmg.out
      clear hRR
      by_cases her : er = 0
      · subst her
        have hT3 := hT2.trans (if_pos rfl)
        rw [show rnQ (pl + 1) pl ((n, k, (0 : Int)) : Nat × Nat × Int) = pl + 1 + k by simp [rnQ]] at hN
        have hnb := hRb.1
        have hkb := hRb.2 rfl
        rw [List.length_drop] at hkb
        clear hT2 hRb
        replace hT3 : Hid _ := hT3
        rcases hx with rfl | rfl
        · by_cases h1 : 9223372036854775807 < n
          · have hW : wS 43 n = (0, 11) := by unfold wS; rw [if_neg (by decide), if_pos h1]
            have hT4 : Hid (T = (0, 1 + k, 11)) := by show _ = _; rw [hT3.out, hW]
            have h1i : (9223372036854775807 : Int) < (n : Int) := by omega
            clear hT3 hW
            go_enter Tryz.func60, Tryz.ntmps60
            go_wp2_with (first
              | (go_at_call 94; refine hN.mono ?_; rintro e w3 ⟨rfl, hI3, hg3⟩; have hF3 := rfail_ok lo g bs (pl + 1 + k) 11 pl w3 hI3 hpl; obtain ⟨a3, n3, c3, sp3, hh3, _, _, _⟩ := id hI3; have d2 := (rd_cells hh3 2 _ rfl).1; clear hh3; replace hI3 : Hid (IsRd w3 lo g bs (pl + 1 + k) 0) := hI3; replace hg3 : Hid _ := hg3)
              | (go_at_call 95; refine hF3.mono ?_; rintro e w4 ⟨rfl, hI4, hg4⟩; replace hI4 : Hid (IsRd w4 lo g bs pl 11) := hI4; replace hg4 : Hid _ := hg4))
            go_ret
            exact ⟨by rw [hT4.out]; rfl, by rw [hT4.out]; exact hI4.out, grown_trans (grown_trans hmg.out hg3.out) hg4.out⟩
          · have hW : wS 43 n = ((n : Int), 0) := by unfold wS; rw [if_neg (by decide), if_neg h1]
            have hT4 : Hid (T = ((n : Int), 1 + k, 0)) := by show _ = _; rw [hT3.out, hW]
            have h1i : ¬ (9223372036854775807 : Int) < (n : Int) := by omega
            have h2i : ¬ (9223372036854775808 : Int) < (n : Int) := by omega
            clear hT3 hW
            go_enter Tryz.func60, Tryz.ntmps60
            go_wp2_with (first
              | (go_at_call 94; refine hN.mono ?_; rintro e w3 ⟨rfl, hI3, hg3⟩; obtain ⟨a3, n3, c3, sp3, hh3, _, _, _⟩ := id hI3; have d2 := (rd_cells hh3 2 _ rfl).1; clear hh3; replace hI3 : Hid (IsRd w3 lo g bs (pl + 1 + k) 0) := hI3; replace hg3 : Hid _ := hg3))
            go_ret
            exact ⟨by rw [hT4.out]; first | rfl | (show Ending.returned (.int .i64 _) = Ending.returned (.int .i64 _); congr 2; omega), by rw [hT4.out]; show IsRd w3 lo g bs (pl + (1 + k)) 0; rw [← Nat.add_assoc]; exact hI3.out, grown_trans hmg.out hg3.out⟩
        · by_cases h0 : n = 0
          · have hW : wS 45 n = (0, 10) := by unfold wS; rw [if_pos rfl, if_pos h0]
            have hT4 : Hid (T = (0, 1 + k, 10)) := by show _ = _; rw [hT3.out, hW]
            have h0i : ((n : Int) == 0) = true := by rw [h0]; rfl
            clear h0
            clear hT3 hW
            go_enter Tryz.func60, Tryz.ntmps60
            go_wp2_with (first
              | (go_at_call 94; refine hN.mono ?_; rintro e w3 ⟨rfl, hI3, hg3⟩; have hF3 := rfail_ok lo g bs (pl + 1 + k) 10 pl w3 hI3 hpl; obtain ⟨a3, n3, c3, sp3, hh3, _, _, _⟩ := id hI3; have d2 := (rd_cells hh3 2 _ rfl).1; clear hh3; replace hI3 : Hid (IsRd w3 lo g bs (pl + 1 + k) 0) := hI3; replace hg3 : Hid _ := hg3)
              | (go_at_call 95; refine hF3.mono ?_; rintro e w4 ⟨rfl, hI4, hg4⟩; replace hI4 : Hid (IsRd w4 lo g bs pl 10) := hI4; replace hg4 : Hid _ := hg4))
            go_ret
            exact ⟨by rw [hT4.out]; rfl, by rw [hT4.out]; exact hI4.out, grown_trans (grown_trans hmg.out hg3.out) hg4.out⟩
          · have h0i : ((n : Int) == 0) = false := by simpa using h0
            by_cases h1 : 9223372036854775808 < n
            · have hW : wS 45 n = (0, 11) := by unfold wS; rw [if_pos rfl, if_neg h0, if_pos h1]
              have hT4 : Hid (T = (0, 1 + k, 11)) := by show _ = _; rw [hT3.out, hW]
              have h1i : (9223372036854775808 : Int) < (n : Int) := by omega
              clear hT3 hW
              go_enter Tryz.func60, Tryz.ntmps60
              go_wp2_with (first
                | (go_at_call 94; refine hN.mono ?_; rintro e w3 ⟨rfl, hI3, hg3⟩; have hF3 := rfail_ok lo g bs (pl + 1 + k) 11 pl w3 hI3 hpl; obtain ⟨a3, n3, c3, sp3, hh3, _, _, _⟩ := id hI3; have d2 := (rd_cells hh3 2 _ rfl).1; clear hh3; replace hI3 : Hid (IsRd w3 lo g bs (pl + 1 + k) 0) := hI3; replace hg3 : Hid _ := hg3)
                | (go_at_call 95; refine hF3.mono ?_; rintro e w4 ⟨rfl, hI4, hg4⟩; replace hI4 : Hid (IsRd w4 lo g bs pl 11) := hI4; replace hg4 : Hid _ := hg4))
              go_ret
              exact ⟨by rw [hT4.out]; rfl, by rw [hT4.out]; exact hI4.out, grown_trans (grown_trans hmg.out hg3.out) hg4.out⟩
            · have hW : wS 45 n = (-(n : Int), 0) := by unfold wS; rw [if_pos rfl, if_neg h0, if_neg h1]
              have hT4 : Hid (T = (-(n : Int), 1 + k, 0)) := by show _ = _; rw [hT3.out, hW]
              have h1i : ¬ (9223372036854775808 : Int) < (n : Int) := by omega
              have h3i : (1 : Int) ≤ (n : Int) := by omega
              clear hT3 hW
              go_enter Tryz.func60, Tryz.ntmps60
              go_wp2_with (first
                | (go_at_call 94; refine hN.mono ?_; rintro e w3 ⟨rfl, hI3, hg3⟩; obtain ⟨a3, n3, c3, sp3, hh3, _, _, _⟩ := id hI3; have d2 := (rd_cells hh3 2 _ rfl).1; clear hh3; replace hI3 : Hid (IsRd w3 lo g bs (pl + 1 + k) 0) := hI3; replace hg3 : Hid _ := hg3))
              go_ret
              exact ⟨by rw [hT4.out]; first | rfl | (show Ending.returned (.int .i64 _) = Ending.returned (.int .i64 _); congr 2; omega), by rw [hT4.out]; show IsRd w3 lo g bs (pl + (1 + k)) 0; rw [← Nat.add_assoc]; exact hI3.out, grown_trans hmg.out hg3.out⟩
      · have hT3 : Hid (T = (0, 0, er)) := hT2.trans (if_neg her)
        have hq : Hid (rnQ pl pl (((0, 0, er)) : Int × Nat × Int) = pl) := by show _ = _; simp [rnQ, her]
        rw [show rnQ (pl + 1) pl ((n, k, er) : Nat × Nat × Int) = pl by simp [rnQ, her]] at hN
        have heb : (er == 0) = false := by simpa using her
        clear hT2 hRb her
        rcases hx with rfl | rfl
        · skip
          go_enter Tryz.func60, Tryz.ntmps60
          go_wp2_with (first | (go_at_call 94; refine hN.mono ?_; rintro e w3 ⟨rfl, hI3, hg3⟩; obtain ⟨a3, n3, c3, sp3, hh3, _, _, _⟩ := id hI3; have d2 := (rd_cells hh3 2 _ rfl).1; clear hh3; replace hI3 : Hid (IsRd w3 lo g bs pl er) := hI3; replace hg3 : Hid _ := hg3))
          go_ret
          exact ⟨by rw [hT3.out]; rfl, by rw [hT3.out, hq.out]; exact hI3.out, grown_trans hmg.out hg3.out⟩
        · skip
          go_enter Tryz.func60, Tryz.ntmps60
          go_wp2_with (first | (go_at_call 94; refine hN.mono ?_; rintro e w3 ⟨rfl, hI3, hg3⟩; obtain ⟨a3, n3, c3, sp3, hh3, _, _, _⟩ := id hI3; have d2 := (rd_cells hh3 2 _ rfl).1; clear hh3; replace hI3 : Hid (IsRd w3 lo g bs pl er) := hI3; replace hg3 : Hid _ := hg3))
          go_ret
          exact ⟨by rw [hT3.out]; rfl, by rw [hT3.out, hq.out]; exact hI3.out, grown_trans hmg.out hg3.out⟩
    · have hT3 : Hid (T = (0, 0, 10)) := hT.out.trans (if_neg hx)
      have x1 : (x == 43) = false := by simp; omega
      have x2 : (x == 45) = false := by simp; omega
      have x3 : (x != 43) = true := by simp; omega
      have x4 : (x != 45) = true := by simp; omega
      clear hT hx hg hb hk
      go_enter Tryz.func60, Tryz.ntmps60
      go_wp2_with (first | (go_at_call 95; refine (hF.out 10).mono ?_; rintro e w1 ⟨rfl, hI1, hg1⟩; replace hI1 : Hid _ := hI1; replace hg1 : Hid _ := hg1))
      go_ret
      exact ⟨by rw [hT3.out]; rfl, by rw [hT3.out]; exact hI1.out, hg1.out⟩
  · have hT3 : Hid (rrS (bs.drop pl) = (0, 0, 3)) := by show _ = _; rw [List.drop_of_length_le (by omega)]; rfl
    have hli : (bs.length : Int) ≤ (pl : Int) := by omega
    have hld : decide ((bs.length : Int) ≤ (pl : Int)) = true := by simp; omega
    generalize rrS (bs.drop pl) = T at *
    clear hg hb hk
    go_enter Tryz.func60, Tryz.ntmps60
    go_wp2_with (first | (go_at_call 95; refine (hF.out 3).mono ?_; rintro e w1 ⟨rfl, hI1, hg1⟩; replace hI1 : Hid _ := hI1; replace hg1 : Hid _ := hg1))
    go_ret
    exact ⟨by rw [hT3.out]; rfl, by rw [hT3.out]; exact hI1.out, hg1.out⟩
/-- Int. -/
theorem rint_any (lo g : Nat) (bs : List Int) (pl : Nat) (err : Int) (w : World) (hs : IsRd w lo g bs pl err) (hby : IsBytes bs) (hlen : bs.length ≤ 1000000000) :
    Calls Tryz.prog 60 #[.pointer (some ⟨g, 0, none⟩)] w fun e w' => e = .returned (.int .i64 (nextV 0 err (rrS (bs.drop pl)))) ∧ IsRd w' lo g bs (nextP pl err (rrS (bs.drop pl))) (nextE err (rrS (bs.drop pl))) ∧ w.grownBy w' (some g) := by
  by_cases he : err = 0
  · subst he
    have hv : nextV 0 0 (rrS (bs.drop pl)) = (rrS (bs.drop pl)).1 := by
      unfold nextV; rw [if_pos rfl]
      by_cases h : (rrS (bs.drop pl)).2.2 = 0
      · rw [if_pos h]
      · rw [if_neg h, rrS_z _ h]
    have hE : nextE 0 (rrS (bs.drop pl)) = (rrS (bs.drop pl)).2.2 := by unfold nextE; rw [if_pos rfl]
    rw [nextP_ok, hv, hE]
    exact rint_ok lo g bs pl w hs hby hlen
  · have hv : nextV 0 err (rrS (bs.drop pl)) = 0 := by unfold nextV; rw [if_neg he]
    have hP : nextP pl err (rrS (bs.drop pl)) = pl := by unfold nextP; rw [if_neg he]
    have hE : nextE err (rrS (bs.drop pl)) = err := by unfold nextE; rw [if_neg he]
    rw [hv, hP, hE]
    refine (rint_bad lo g bs pl err w hs he).mono ?_
    rintro e w' ⟨rfl, rfl⟩
    exact ⟨rfl, hs, grown_refl _ _⟩
set_option maxRecDepth 100000 in
set_option maxHeartbeats 1000000 in
/-- New. -/
theorem rnew_any (bs : List Int) (v : Value) (w : World) (hlen : bs.length ≤ 1000000000) (hb : Bts w v bs) :
    Calls Tryz.prog 57 #[v] w fun e w' => ∃ g, e = .returned (.pointer (some ⟨g, 0, none⟩)) ∧ w.heap.size ≤ g ∧ IsRd w' w.heap.size g bs 0 0 ∧ Below w.heap.size w w' := by
  have hbb : Hid (Bts (w.alloc (.cells #[] 5)) v bs) := hb.alloc _
  have hoo : Hid (Own (w.alloc (.cells #[] 5)) w.heap.size (.slice (some ⟨w.heap.size, 0, none⟩) 0 0) []) := own_emptyB w
  go_enter Tryz.func57, Tryz.ntmps57
  go_wp2_with (first
    | (at_builtin; refine appX rfl (.tmp 3) (.tmp 4) rfl w.heap.size (.slice (some ⟨w.heap.size, 0, none⟩) 0 0) v [] bs rfl rfl hoo.out hbb.out (by simp) (by simp; omega) ?_; intro v1 w1 ho1 hb1 _; rw [List.nil_append] at ho1; obtain ⟨a1, c1, rfl⟩ := ho1.shape; replace ho1 : Hid (Own w1 w.heap.size (.slice a1 bs.length c1) bs) := ho1; replace hb1 : Hid (Below w.heap.size (w.alloc (.cells #[] 5)) w1) := hb1))
  go_ret
  have hb2 : Below w.heap.size w w1 := ((Below.refl _ w).alloc (Nat.le_refl _) _).trans hb1.out
  refine ⟨w1.heap.size, rfl, hb2.size, ⟨a1, bs.length, c1, 0, heap_alloc_new w1 _, ho1.out.bts.alloc _, ⟨hb2.size, fun k hk => ?_⟩, Nat.zero_le _⟩, hb2.alloc hb2.size _⟩
  exact ho1.out.lt k hk
end Go.Proofs.YtiajafljgfpdcaaGreat.Q
/- The contracts of a strip's Bad, Where, More, Over, and of all methods at a nil strip. -/
namespace Go.Proofs.YtiajafljgfpdcaaGreat.Q
open Go.RowKit
def okP (pl : Nat) (err : Int) : Nat := if err = 0 then 0 else pl
theorem bts_len {w : World} {a : Option Addr} {n c : Nat} {bs : List Int} (h : Bts w (.slice a n c) bs) : n = bs.length := by
  obtain ⟨a', c', e, _⟩ := h
  cases e; rfl
/-- What Over answers. -/
def over (bs : List Int) (pl : Nat) (err : Int) : Int := if err = 0 then (if pl < bs.length then 4 else 0) else err
theorem IsStrip.drewN {w : World} {lo g : Nat} {bs : List Int} {pl : Nat} {err : Int} (hs : IsStrip w lo g bs pl err) (n : Nat) : IsStrip (w.drewN n) lo g bs pl err := (strip_stay hs (below_draw w n)).1
end Go.Proofs.YtiajafljgfpdcaaGreat.Q
/- Readings in weak words: what comes of bytes that were laid; readGrants, readFolder. -/
namespace Go.Proofs.YtiajafljgfpdcaaGreat.Q
set_option linter.unusedVariables false
open Go.RowKit
def TxtC (m : Nat) (bs : List Int) (pl : Nat) (err : Int) (s : ByteArray) (pl' : Nat) (err' : Int) : Prop := ∀ s0 rest, err = 0 → bs.drop pl = encT s0 ++ rest → s0.size ≤ m → s = s0 ∧ err' = 0 ∧ bs.drop pl' = rest
def NumC (bs : List Int) (pl : Nat) (err : Int) (n : Nat) (pl' : Nat) (err' : Int) : Prop := ∀ n0 rest, err = 0 → bs.drop pl = enc n0 ++ rest → n0 < 2 ^ 64 → n = n0 ∧ err' = 0 ∧ bs.drop pl' = rest
def IntC (bs : List Int) (pl : Nat) (err : Int) (z : Int) (pl' : Nat) (err' : Int) : Prop := ∀ z0 rest, err = 0 → bs.drop pl = encS z0 ++ rest → (-9223372036854775808 ≤ z0 ∧ z0 ≤ 9223372036854775807) → z = z0 ∧ err' = 0 ∧ bs.drop pl' = rest
theorem drop_app {bs a rest : List Int} {pl : Nat} (h : bs.drop pl = a ++ rest) : bs.drop (pl + a.length) = rest := by
  rw [← List.drop_drop, h, List.drop_left]
theorem txtC_of {m : Nat} {bs : List Int} {pl : Nat} {err : Int} {R : List Int × Nat × Int} (h : ∀ s0 : ByteArray, ∀ rest, bs.drop pl = encT s0 ++ rest → s0.size ≤ m → R = (numsS s0, (encT s0).length, 0)) : TxtC m bs pl err (strOfNums (nextV [] err R)) (nextP pl err R) (nextE err R) := by
  rintro s0 rest rfl h2 h3
  rw [h s0 rest h2 h3]
  exact ⟨by simp [nextV, strOf_numsS], by simp [nextE], by simp only [nextP, if_true]; exact drop_app h2⟩
theorem numC_of {bs : List Int} {pl : Nat} {err : Int} {R : Nat × Nat × Int} (h : ∀ n0 rest, bs.drop pl = enc n0 ++ rest → n0 < 2 ^ 64 → R = (n0, (enc n0).length, 0)) : NumC bs pl err (nextV 0 err R) (nextP pl err R) (nextE err R) := by
  rintro s0 rest rfl h2 h3
  rw [h s0 rest h2 h3]
  exact ⟨by simp [nextV], by simp [nextE], by simp only [nextP, if_true]; exact drop_app h2⟩
theorem intC_of {bs : List Int} {pl : Nat} {err : Int} {R : Int × Nat × Int} (h : ∀ z0 rest, bs.drop pl = encS z0 ++ rest → (-9223372036854775808 ≤ z0 ∧ z0 ≤ 9223372036854775807) → R = (z0, (encS z0).length, 0)) : IntC bs pl err (nextV 0 err R) (nextP pl err R) (nextE err R) := by
  rintro s0 rest rfl h2 h3
  rw [h s0 rest h2 h3]
  exact ⟨by simp [nextV], by simp [nextE], by simp only [nextP, if_true]; exact drop_app h2⟩
theorem nextV_len {err : Int} {R : List Int × Nat × Int} {k : Nat} (h : R.1.length ≤ k) : (strOfNums (nextV [] err R)).size ≤ k := by
  rw [strOf_size]
  unfold nextV
  split
  · split
    · exact h
    · simp
  · simp
theorem rdT_size (most : Nat) (bs : List Int) : (rdT most bs).1.length ≤ most := by
  unfold rdT
  split
  · split
    · simp
    · split
      · simp
      · simp only [List.length_take]; omega
  · simp
theorem nextV_in {err : Int} {R : Int × Nat × Int} (h : -9223372036854775808 ≤ R.1 ∧ R.1 ≤ 9223372036854775807) : -9223372036854775808 ≤ nextV 0 err R ∧ nextV 0 err R ≤ 9223372036854775807 := by
  unfold nextV
  split
  · split
    · exact h
    · decide
  · decide
theorem rdS_in (bs : List Int) : -9223372036854775808 ≤ (rdS bs).1 ∧ (rdS bs).1 ≤ 9223372036854775807 := by
  cases bs with
  | nil => simp [rdS]
  | cons c r =>
    rw [rdS]
    split
    · split
      · exact wS_in _ _
      · simp
    · simp
/-! ### The strip -/
section
variable (lo g : Nat) (bs : List Int) (pl : Nat) (err : Int) (w : World) (hs : IsStrip w lo g bs pl err) (hby : IsBytes bs) (hlen : bs.length ≤ 1000000000)
include hs hby hlen
theorem sText_w (m : Nat) (hm : m ≤ 1000) : Calls Tryz.prog 115 #[.pointer (some ⟨g, 0, none⟩), .int .i64 (m : Nat)] w fun e w' => ∃ s pl' err', e = .returned (.string s) ∧ s.size ≤ m ∧ IsStrip w' lo g bs pl' err' ∧ w.grownBy w' (some g) ∧ TxtC m bs pl err s pl' err' := by
  refine (stripText_any lo g bs pl err (m : Nat) w (by omega) (by omega) hs hby hlen).mono ?_
  rintro e w' ⟨rfl, h1, h2⟩
  exact ⟨_, _, _, rfl, nextV_len (rdT_size m _), h1, h2, txtC_of fun s0 rest h3 h4 => by rw [h3]; exact rdT_encT m s0 h4 (by omega) rest⟩
theorem sNum_w : Calls Tryz.prog 90 #[.pointer (some ⟨g, 0, none⟩)] w fun e w' => ∃ n pl' err', e = .returned (.int .u64 (n : Nat)) ∧ n < 2 ^ 64 ∧ IsStrip w' lo g bs pl' err' ∧ w.grownBy w' (some g) ∧ NumC bs pl err n pl' err' := by
  refine (stripNumber_any lo g bs pl err w hs hby hlen).mono ?_
  rintro e w' ⟨rfl, h1, h2⟩
  refine ⟨_, _, _, rfl, ?_, h1, h2, numC_of fun s0 rest h3 h4 => by rw [h3]; exact rdN_enc s0 h4 rest⟩
  have := (rdN_bounds (bs.drop pl) true 0 0 (by decide)).1
  unfold nextV
  split
  · split
    · exact this
    · decide
  · decide
theorem sInt_w : Calls Tryz.prog 116 #[.pointer (some ⟨g, 0, none⟩)] w fun e w' => ∃ z pl' err', e = .returned (.int .i64 z) ∧ (-9223372036854775808 ≤ z ∧ z ≤ 9223372036854775807) ∧ IsStrip w' lo g bs pl' err' ∧ w.grownBy w' (some g) ∧ IntC bs pl err z pl' err' := by
  refine (stripSigned_any lo g bs pl err w hs hby hlen).mono ?_
  rintro e w' ⟨rfl, h1, h2⟩
  exact ⟨_, _, _, rfl, nextV_in (rdS_in _), h1, h2, intC_of fun s0 rest h3 h4 => by rw [h3]; exact rdS_encS s0 h4.1 h4.2 rest⟩
end
theorem gtr {w w1 w2 : World} {g : Nat} {ob : Option Nat} (h1 : w.grownBy w1 (some g)) (h2 : w1.grownBy w2 ob) (h : ∀ k, ob = some k → w.heap.size ≤ k) : w.grownBy w2 (some g) :=
  ⟨h2.os.trans h1.os, h2.tape.trans h1.tape, h2.output.trans h1.output, Nat.le_trans h1.size h2.size, fun k hk hne => (h2.block k (Nat.lt_of_lt_of_le hk h1.size) (fun e => by have := h k e.symm; omega)).trans (h1.block k hk hne)⟩
theorem gtr' {w w1 w2 : World} {g : Nat} (h1 : w.grownBy w1 (some g)) (h2 : w1.grownBy w2 (some g)) : w.grownBy w2 (some g) := grown_trans h1 h2
theorem g_alloc (w : World) (g : Nat) (o : Obj) : w.grownBy (w.alloc o) (some g) := grownBy_below ((Below.refl _ _).alloc (Nat.le_refl _) _) _
theorem OwnS.kept2 {α : Type} {E : Enc α} {T : RowTy E} {w w' : World} {base g : Nat} {v : Value} {l : List α} (h : OwnS T w base v l) (hg : w.grownBy w' (some g)) (hb : g < base) : OwnS T w' base v l :=
  World.ownsRow.kept h hg (.inr fun e => by have := (OwnS.lt h g e).1; omega)
theorem strip_ob {w W : World} {lo g pl : Nat} {bs : List Int} {err : Int} {ob : Option Nat} (hs : IsStrip w lo g bs pl err) (hW : w.grownBy W ob) (hr : ∀ k, ob = some k → g < k) : IsStrip W lo g bs pl err := by
  cases ob with
  | none => exact strip_other (row := w.heap.size) hs ⟨hW.os, hW.tape, hW.output, hW.size, fun k hk _ => hW.block k hk (by simp)⟩ (.inr hs.lt)
  | some k => exact strip_other hs hW (.inr (hr k rfl))
end Go.Proofs.YtiajafljgfpdcaaGreat.Q
