/- Sets of labels: the mathematics of P9.1 to P9.9 (order, Make, keys, Compare, parts, Join). It speaks of no program. -/
import GoSem.Op.String
namespace Go.Proofs.YtiajafljgfpdcaaGreat
/-- Numbers that are bytes. -/
def IsBytes (bs : List Int) : Prop := ∀ c ∈ bs, 0 ≤ c ∧ c < 256
theorem isBytes_append {a b : List Int} (ha : IsBytes a) (hb : IsBytes b) : IsBytes (a ++ b) := by
  intro c h
  rcases List.mem_append.1 h with h | h
  · exact ha c h
  · exact hb c h
theorem isBytes_left {a b : List Int} (h : IsBytes (a ++ b)) : IsBytes a := fun c hc => h c (List.mem_append.2 (.inl hc))
theorem isBytes_right {a b : List Int} (h : IsBytes (a ++ b)) : IsBytes b := fun c hc => h c (List.mem_append.2 (.inr hc))
theorem IsBytes.take {bs : List Int} (h : IsBytes bs) (k : Nat) : IsBytes (bs.take k) := fun c hc => h c (List.mem_of_mem_take hc)
theorem IsBytes.drop {bs : List Int} (h : IsBytes bs) (k : Nat) : IsBytes (bs.drop k) := fun c hc => h c (List.mem_of_mem_drop hc)
/-- The order of lists of bytes: -1, 0, 1. -/
def cmpL : List Int → List Int → Int
  | [], [] => 0
  | [], _ :: _ => -1
  | _ :: _, [] => 1
  | a :: x, b :: y => if a < b then -1 else if b < a then 1 else cmpL x y
theorem cmpL_in : ∀ x y : List Int, cmpL x y = -1 ∨ cmpL x y = 0 ∨ cmpL x y = 1
  | [], [] => by simp [cmpL]
  | [], _ :: _ => by simp [cmpL]
  | _ :: _, [] => by simp [cmpL]
  | a :: x, b :: y => by
    unfold cmpL
    split
    · exact .inl rfl
    · split
      · exact .inr (.inr rfl)
      · exact cmpL_in x y
theorem cmpL_neg : ∀ x y : List Int, cmpL y x = - cmpL x y
  | [], [] => rfl
  | [], _ :: _ => rfl
  | _ :: _, [] => rfl
  | a :: x, b :: y => by
    unfold cmpL
    have ih := cmpL_neg x y
    split <;> split <;> first | omega | (split <;> omega) | skip
    all_goals (try (split <;> omega))
    all_goals omega
theorem cmpL_eq : ∀ {x y : List Int}, cmpL x y = 0 → x = y
  | [], [], _ => rfl
  | [], _ :: _, h => by simp [cmpL] at h
  | _ :: _, [], h => by simp [cmpL] at h
  | a :: x, b :: y, h => by
    unfold cmpL at h
    split at h
    · omega
    · split at h
      · omega
      · rw [cmpL_eq h, show a = b by omega]
theorem cmpL_self (x : List Int) : cmpL x x = 0 := by
  induction x with
  | nil => rfl
  | cons a x ih => simp [cmpL, ih]
theorem cmpL_pre (x : List Int) (c : Int) (r : List Int) : cmpL x (x ++ c :: r) = -1 := by
  induction x with
  | nil => rfl
  | cons a x ih => simp [cmpL, ih]
theorem cmpL_behind (p x y : List Int) : cmpL (p ++ x) (p ++ y) = cmpL x y := by
  induction p with
  | nil => rfl
  | cons a p ih => simp [cmpL, ih]
/-- A string's bytes as numbers. -/
def numsS (s : ByteArray) : List Int := s.data.toList.map fun b => (b.toNat : Int)
theorem numsS_length (s : ByteArray) : (numsS s).length = s.size := by rw [numsS, List.length_map, Array.length_toList]; rfl
theorem numsS_bytes (s : ByteArray) : IsBytes (numsS s) := by
  intro c hc
  obtain ⟨b, _, rfl⟩ := List.mem_map.1 hc
  have := b.toNat_lt
  omega
theorem numsS_inj {s t : ByteArray} (h : numsS s = numsS t) : s = t := by
  have : s.data.toList = t.data.toList := by
    unfold numsS at h
    refine List.map_inj_right (f := fun b : UInt8 => (b.toNat : Int)) ?_ |>.1 h
    intro a b e
    exact UInt8.toNat_inj.1 (Int.ofNat.inj e)
  cases s; cases t
  simp at this
  rw [ByteArray.mk.injEq]
  exact Array.toList_inj.1 (by simpa using this)
theorem cmpL_trans : ∀ {x y z : List Int}, cmpL x y = -1 → cmpL y z = -1 → cmpL x z = -1
  | [], [], _, h, _ => by simp [cmpL] at h
  | _ :: _, [], _, h, _ => by simp [cmpL] at h
  | _, _ :: _, [], _, h => by simp [cmpL] at h
  | [], _ :: _, _ :: _, _, _ => by simp [cmpL]
  | a :: x, b :: y, c :: z, h, g => by
    simp only [cmpL] at h g ⊢
    by_cases h1 : a < b
    · by_cases h2 : b < c
      · rw [if_pos (by omega)]
      · rw [if_neg h2] at g
        by_cases h3 : c < b
        · rw [if_pos h3] at g; cases g
        · rw [if_pos (by omega)]
    · rw [if_neg h1] at h
      by_cases h2 : b < a
      · rw [if_pos h2] at h; cases h
      · rw [if_neg h2] at h
        by_cases h3 : b < c
        · rw [if_pos (by omega)]
        · rw [if_neg h3] at g
          by_cases h4 : c < b
          · rw [if_pos h4] at g; cases g
          · rw [if_neg h4] at g
            rw [if_neg (by omega), if_neg (by omega)]
            exact cmpL_trans h g
/-- A label. -/
structure Lb where
  name : ByteArray
  value : ByteArray
deriving DecidableEq
/-- Its name is ahead of another one's. -/
def Nlt (a b : Lb) : Prop := cmpL (numsS a.name) (numsS b.name) = -1
instance (a b : Lb) : Decidable (Nlt a b) := by unfold Nlt; infer_instance
theorem Nlt.trans {a b c : Lb} (h : Nlt a b) (g : Nlt b c) : Nlt a c := cmpL_trans h g
theorem Nlt.irrefl {a b : Lb} (h : Nlt a b) : a.name ≠ b.name := by
  intro e; unfold Nlt at h; rw [e, cmpL_self] at h; cases h
theorem Nlt.asymm {a b : Lb} (h : Nlt a b) : ¬ Nlt b a := by
  unfold Nlt at *; rw [cmpL_neg, h]; decide
theorem nlt_total (a b : Lb) : Nlt a b ∨ a.name = b.name ∨ Nlt b a := by
  rcases cmpL_in (numsS a.name) (numsS b.name) with h | h | h
  · exact .inl h
  · exact .inr (.inl (numsS_inj (cmpL_eq h)))
  · refine .inr (.inr ?_); unfold Nlt; rw [cmpL_neg, h]
/-- By rising names. -/
def Rise (l : List Lb) : Prop := l.Pairwise Nlt
theorem Rise.tail {a : Lb} {l : List Lb} (h : Rise (a :: l)) : Rise l := (List.pairwise_cons.1 h).2
theorem Rise.head {a : Lb} {l : List Lb} (h : Rise (a :: l)) : ∀ b ∈ l, Nlt a b := (List.pairwise_cons.1 h).1
/-- In a rising list a name is there once. -/
theorem Rise.one {l : List Lb} (h : Rise l) {a b : Lb} (ha : a ∈ l) (hb : b ∈ l) (e : a.name = b.name) : a = b := by
  induction l with
  | nil => cases ha
  | cons c l ih =>
    rcases List.mem_cons.1 ha with rfl | ha1 <;> rcases List.mem_cons.1 hb with rfl | hb1
    · rfl
    · exact absurd e (h.head b hb1).irrefl
    · exact absurd e.symm (h.head a ha1).irrefl
    · exact ih h.tail ha1 hb1
/-- Two rising lists of the same labels are one. -/
theorem rise_eq : ∀ {l m : List Lb}, Rise l → Rise m → (∀ x, x ∈ l ↔ x ∈ m) → l = m
  | [], [], _, _, _ => rfl
  | [], b :: m, _, _, h => by have := (h b).2 (by simp); cases this
  | a :: l, [], _, _, h => by have := (h a).1 (by simp); cases this
  | a :: l, b :: m, hl, hm, h => by
    have hab : a = b := by
      rcases List.mem_cons.1 ((h a).1 (by simp)) with e | h1
      · exact e
      · rcases List.mem_cons.1 ((h b).2 (by simp)) with e | h2
        · exact e.symm
        · exact absurd (hm.head a h1) (hl.head b h2).asymm
    subst hab
    have key : ∀ {l m : List Lb}, Rise (a :: l) → (∀ x, x ∈ a :: l → x ∈ a :: m) → ∀ x, x ∈ l → x ∈ m := by
      intro l m hl h x hx
      rcases List.mem_cons.1 (h x (by simp [hx])) with e | h1
      · subst e; exact absurd rfl (hl.head x hx).irrefl
      · exact h1
    rw [rise_eq hl.tail hm.tail fun x => ⟨key hl (fun y hy => (h y).1 hy) x, key hm (fun y hy => (h y).2 hy) x⟩]
theorem rise_perm {l m : List Lb} (hl : Rise l) (hm : Rise m) (h : l.Perm m) : l = m := rise_eq hl hm fun _ => h.mem_iff
theorem Rise.filter {l : List Lb} (h : Rise l) (p : Lb → Bool) : Rise (l.filter p) := List.Pairwise.filter p h

/-! ### Make -/
/-- Of a byte: it may be in a name (at its beginning, or behind). -/
def nameC (first : Bool) (c : Int) : Bool := (97 ≤ c ∧ c ≤ 122) || (65 ≤ c ∧ c ≤ 90) || c = 95 || (!first && (48 ≤ c ∧ c ≤ 57))
/-- It is a name. -/
def IsName (s : ByteArray) : Prop := (1 ≤ s.size ∧ s.size ≤ 64) ∧ ∀ k (h : k < (numsS s).length), nameC (k == 0) ((numsS s)[k]) = true
/-- A label may be. -/
def IsLb (a : Lb) : Prop := IsName a.name ∧ 1 ≤ a.value.size ∧ a.value.size ≤ 128
/-- No two have one name. -/
def Apart (l : List Lb) : Prop := l.Pairwise fun a b => a.name ≠ b.name
theorem Rise.apart {l : List Lb} (h : Rise l) : Apart l := List.Pairwise.imp (fun h => h.irrefl) h
theorem Apart.perm {l m : List Lb} (p : l.Perm m) (h : Apart l) : Apart m := (p.pairwise_iff (fun h => fun e => h e.symm)).1 h
/-- What Make tells. -/
def MkQ (l out : List Lb) (e : Int) : Prop :=
  ((∃ a ∈ l, ¬ IsLb a) ∧ e = 90 ∧ out = []) ∨ ((∀ a ∈ l, IsLb a) ∧ ¬ Apart l ∧ e = 8 ∧ out = []) ∨
  ((∀ a ∈ l, IsLb a) ∧ Apart l ∧ 16 < l.length ∧ e = 6 ∧ out = []) ∨ ((∀ a ∈ l, IsLb a) ∧ l.length ≤ 16 ∧ e = 0 ∧ Rise out ∧ out.Perm l)
theorem MkQ.apart {l out : List Lb} (h : Rise out) (p : out.Perm l) : Apart l := h.apart.perm p
theorem MkQ.one {l o1 o2 : List Lb} {e1 e2 : Int} (h : MkQ l o1 e1) (g : MkQ l o2 e2) : o1 = o2 ∧ e1 = e2 := by
  rcases h with ⟨⟨a, ha, na⟩, rfl, rfl⟩ | ⟨h1, h2, rfl, rfl⟩ | ⟨h1, h2, h3, rfl, rfl⟩ | ⟨h1, h2, rfl, h3, h4⟩ <;>
    rcases g with ⟨⟨b, hb, nb⟩, rfl, rfl⟩ | ⟨g1, g2, rfl, rfl⟩ | ⟨g1, g2, g3, rfl, rfl⟩ | ⟨g1, g2, rfl, g3, g4⟩
  · exact ⟨rfl, rfl⟩
  · exact absurd (g1 a ha) na
  · exact absurd (g1 a ha) na
  · exact absurd (g1 a ha) na
  · exact absurd (h1 b hb) nb
  · exact ⟨rfl, rfl⟩
  · exact absurd g2 h2
  · exact absurd (MkQ.apart g3 g4) h2
  · exact absurd (h1 b hb) nb
  · exact absurd h2 g2
  · exact ⟨rfl, rfl⟩
  · omega
  · exact absurd (h1 b hb) nb
  · exact absurd (MkQ.apart h3 h4) g2
  · omega
  · exact ⟨rise_perm h3 g3 (h4.trans g4.symm), rfl⟩
/-- Any order of labels is the same set (P9.8); the errors are of one kind. -/
theorem MkQ.perm {l m o1 : List Lb} {e1 : Int} (p : l.Perm m) (h : MkQ l o1 e1) : MkQ m o1 e1 := by
  have hm : (∀ a ∈ l, IsLb a) → ∀ a ∈ m, IsLb a := fun h a ha => h a (p.mem_iff.2 ha)
  rcases h with ⟨⟨a, ha, na⟩, rfl, rfl⟩ | ⟨h1, h2, rfl, rfl⟩ | ⟨h1, h2, h3, rfl, rfl⟩ | ⟨h1, h2, rfl, h3, h4⟩
  · exact .inl ⟨⟨a, p.mem_iff.1 ha, na⟩, rfl, rfl⟩
  · exact .inr (.inl ⟨hm h1, fun g => h2 (g.perm p.symm), rfl, rfl⟩)
  · exact .inr (.inr (.inl ⟨hm h1, h2.perm p, by rw [← p.length_eq]; exact h3, rfl, rfl⟩))
  · exact .inr (.inr (.inr ⟨hm h1, by rw [← p.length_eq]; exact h2, rfl, h3, h4.trans p⟩))
/-- A set (P9.1). -/
def IsSet (l : List Lb) : Prop := (∀ a ∈ l, IsLb a) ∧ Rise l ∧ l.length ≤ 16
theorem MkQ.set {l out : List Lb} {e : Int} (h : MkQ l out e) (h0 : e = 0) : IsSet out := by
  rcases h with ⟨_, rfl, _⟩ | ⟨_, _, rfl, _⟩ | ⟨_, _, _, rfl, _⟩ | ⟨h1, h2, _, h3, h4⟩
  · omega
  · omega
  · omega
  · exact ⟨fun a ha => h1 a (h4.mem_iff.1 ha), h3, by rw [h4.length_eq]; exact h2⟩
theorem IsSet.make {l : List Lb} (h : IsSet l) : MkQ l l 0 := .inr (.inr (.inr ⟨h.1, h.2.2, rfl, h.2.1, List.Perm.refl _⟩))
/-- One label more, at its place. -/
theorem rise_insert {x y : List Lb} {a : Lb} (h : Rise (x ++ y)) (hx : ∀ b ∈ x, Nlt b a) (hy : ∀ b ∈ y, Nlt a b) : Rise (x ++ a :: y) := by
  unfold Rise at *
  rw [List.pairwise_append] at h ⊢
  obtain ⟨h1, h2, h3⟩ := h
  refine ⟨h1, List.pairwise_cons.2 ⟨hy, h2⟩, fun b hb c hc => ?_⟩
  rcases List.mem_cons.1 hc with rfl | hc
  · exact hx b hb
  · exact h3 b hb c hc
theorem perm_insert (x y : List Lb) (a : Lb) : (x ++ a :: y).Perm ((x ++ y) ++ [a]) := by
  refine (List.perm_middle).trans ?_
  exact (List.perm_append_comm (l₁ := [a]) (l₂ := x ++ y))

/-! ### Parts -/
/-- Get. -/
def getL (l : List Lb) (n : ByteArray) : ByteArray := match l.find? (fun a => decide (a.name = n)) with
  | some a => a.value
  | none => ⟨#[]⟩
theorem getL_mem {l : List Lb} (h : Rise l) {a : Lb} (ha : a ∈ l) : getL l a.name = a.value := by
  unfold getL
  cases e : l.find? (fun b => decide (b.name = a.name)) with
  | none =>
    have := List.find?_eq_none.1 e a ha
    simp at this
  | some b =>
    have h1 := List.find?_some e
    have h2 := List.mem_of_find?_eq_some e
    have := h.one h2 ha (by simpa using h1)
    rw [this]
theorem getL_none {l : List Lb} {n : ByteArray} (h : ∀ a ∈ l, a.name ≠ n) : getL l n = ⟨#[]⟩ := by
  unfold getL
  cases e : l.find? (fun b => decide (b.name = n)) with
  | none => rfl
  | some b =>
    have h1 := List.find?_some e
    have h2 := List.mem_of_find?_eq_some e
    exact absurd (by simpa using h1) (h b h2)
/-- A set's values are not empty: what Get tells is empty just if there is none. -/
theorem getL_empty {l : List Lb} (h : ∀ a ∈ l, IsLb a) {n : ByteArray} : getL l n = ⟨#[]⟩ ↔ ∀ a ∈ l, a.name ≠ n := by
  refine ⟨fun e a ha en => ?_, getL_none⟩
  unfold getL at e
  cases e1 : l.find? (fun b => decide (b.name = n)) with
  | none =>
    have := List.find?_eq_none.1 e1 a ha
    simp [en] at this
  | some b =>
    rw [e1] at e
    simp only at e
    have h2 := List.mem_of_find?_eq_some e1
    have h3 := (h b h2).2.1
    rw [e] at h3
    exact absurd h3 (by decide)
/-- A name is among names. -/
def inB (names : List ByteArray) (s : ByteArray) : Bool := names.any fun n => decide (n = s)
def onlyL (l : List Lb) (names : List ByteArray) : List Lb := l.filter fun a => inB names a.name
def withoutL (l : List Lb) (names : List ByteArray) : List Lb := l.filter fun a => !inB names a.name
theorem parts_len (l : List Lb) (names : List ByteArray) : (onlyL l names).length + (withoutL l names).length = l.length := by
  induction l with
  | nil => rfl
  | cons a l ih =>
    by_cases h : inB names a.name = true
    · simp [onlyL, withoutL, h] at ih ⊢; omega
    · simp [onlyL, withoutL, h] at ih ⊢; omega
theorem IsSet.filter {l : List Lb} (h : IsSet l) (p : Lb → Bool) : IsSet (l.filter p) :=
  ⟨fun a ha => h.1 a (List.mem_filter.1 ha).1, h.2.1.filter p, Nat.le_trans (List.length_filter_le _ _) h.2.2⟩
theorem IsSet.only {l : List Lb} (h : IsSet l) (names : List ByteArray) : IsSet (onlyL l names) := h.filter _
theorem IsSet.without {l : List Lb} (h : IsSet l) (names : List ByteArray) : IsSet (withoutL l names) := h.filter _

/-! ### Join -/
theorem nodup_len : ∀ {l m : List Lb}, l.Nodup → (∀ x ∈ l, x ∈ m) → l.length ≤ m.length
  | [], _, _, _ => Nat.zero_le _
  | a :: l, m, h, hs => by
    have ha : a ∈ m := hs a (by simp)
    have h1 := List.nodup_cons.1 h
    have h2 : ∀ x ∈ l, x ∈ m.erase a := fun x hx => by
      refine (List.mem_erase_of_ne (fun e => h1.1 (by rw [← e]; exact hx))).2 (hs x (by simp [hx]))
    have h3 := nodup_len h1.2 h2
    rw [List.length_erase_of_mem ha] at h3
    have : 0 < m.length := List.length_pos_of_mem ha
    simp; omega
/-- A name has unlike values in both. -/
def Unlike (a b : List Lb) : Prop := ∃ x ∈ a, ∃ y ∈ b, x.name = y.name ∧ x.value ≠ y.value
theorem Unlike.symm {a b : List Lb} (h : Unlike a b) : Unlike b a := by
  obtain ⟨x, hx, y, hy, h1, h2⟩ := h
  exact ⟨y, hy, x, hx, h1.symm, fun e => h2 e.symm⟩
/-- What Join tells: the labels of both, as a set. -/
def JoinQ (a b out : List Lb) (ok : Bool) : Prop :=
  (ok = true ∧ IsSet out ∧ ∀ x, x ∈ out ↔ x ∈ a ∨ x ∈ b) ∨ (ok = false ∧ out = [] ∧ ∀ c, ¬ (IsSet c ∧ ∀ x, x ∈ c ↔ x ∈ a ∨ x ∈ b))
theorem JoinQ.one {a b o1 o2 : List Lb} {k1 k2 : Bool} (h : JoinQ a b o1 k1) (g : JoinQ a b o2 k2) : o1 = o2 ∧ k1 = k2 := by
  rcases h with ⟨rfl, h1, h2⟩ | ⟨rfl, rfl, h1⟩ <;> rcases g with ⟨rfl, g1, g2⟩ | ⟨rfl, rfl, g1⟩
  · exact ⟨rise_eq h1.2.1 g1.2.1 fun x => (h2 x).trans (g2 x).symm, rfl⟩
  · exact absurd ⟨h1, h2⟩ (g1 _)
  · exact absurd ⟨g1, g2⟩ (h1 _)
  · exact ⟨rfl, rfl⟩
theorem JoinQ.symm {a b o : List Lb} {k : Bool} (h : JoinQ a b o k) : JoinQ b a o k := by
  rcases h with ⟨rfl, h1, h2⟩ | ⟨rfl, rfl, h1⟩
  · exact .inl ⟨rfl, h1, fun x => (h2 x).trans or_comm⟩
  · exact .inr ⟨rfl, rfl, fun c hc => h1 c ⟨hc.1, fun x => (hc.2 x).trans or_comm⟩⟩
/-- A set that has just the labels of both is their Join. -/
theorem JoinQ.is {a b c o : List Lb} {k : Bool} (hc : IsSet c) (hm : ∀ x, x ∈ c ↔ x ∈ a ∨ x ∈ b) (h : JoinQ a b o k) : o = c ∧ k = true := JoinQ.one h (.inl ⟨rfl, hc, hm⟩)
theorem join_parts {a o : List Lb} {names : List ByteArray} {k : Bool} (ha : IsSet a) (h : JoinQ (withoutL a names) (onlyL a names) o k) : o = a ∧ k = true := by
  refine JoinQ.is ha (fun x => ?_) h
  simp only [withoutL, onlyL, List.mem_filter, Bool.not_eq_true']
  refine ⟨fun hx => ?_, fun hx => hx.elim (fun g => g.1) (fun g => g.1)⟩
  cases hn : inB names x.name with
  | true => exact .inr ⟨hx, rfl⟩
  | false => exact .inl ⟨hx, rfl⟩
theorem join_only {a o : List Lb} {names : List ByteArray} {k : Bool} (ha : IsSet a) (h : JoinQ a (onlyL a names) o k) : o = a ∧ k = true := by
  refine JoinQ.is ha (fun x => ?_) h
  simp only [onlyL, List.mem_filter]
  exact ⟨.inl, fun hx => hx.elim id (fun g => g.1)⟩
/-- The document's way: what the first set lacks of the second is added, and Make asked. -/
theorem JoinQ.of {a b o : List Lb} {e : Int} (ha : IsSet a) (hb : IsSet b) (hu : ¬ Unlike a b) (h : MkQ (a ++ b.filter fun y => decide (∀ x ∈ a, x.name ≠ y.name)) o e) : JoinQ a b o (decide (e = 0)) := by
  have hmem : ∀ x, x ∈ a ++ b.filter (fun y => decide (∀ x ∈ a, x.name ≠ y.name)) ↔ x ∈ a ∨ x ∈ b := by
    intro y
    simp only [List.mem_append, List.mem_filter, decide_eq_true_eq]
    refine ⟨fun h => h.elim .inl (fun g => .inr g.1), fun h => h.elim .inl (fun g => ?_)⟩
    by_cases hn : ∀ x ∈ a, x.name ≠ y.name
    · exact .inr ⟨g, hn⟩
    · refine .inl ?_
      have : ∃ x ∈ a, x.name = y.name := by
        apply Classical.byContradiction
        intro hh
        exact hn fun x hx e => hh ⟨x, hx, e⟩
      obtain ⟨x, hx, e⟩ := this
      have hv : x.value = y.value := Classical.byContradiction fun hv => hu ⟨x, hx, y, g, e, hv⟩
      have : x = y := by cases x; cases y; simp at e hv; simp [e, hv]
      rw [← this]; exact hx
  have hap : Apart (a ++ b.filter fun y => decide (∀ x ∈ a, x.name ≠ y.name)) := by
    unfold Apart
    rw [List.pairwise_append]
    refine ⟨ha.2.1.apart, (hb.2.1.filter _).apart, fun x hx y hy => ?_⟩
    have := (List.mem_filter.1 hy).2
    simp only [decide_eq_true_eq] at this
    exact this x hx
  have hlb : ∀ x ∈ a ++ b.filter (fun y => decide (∀ x ∈ a, x.name ≠ y.name)), IsLb x := fun x hx => ((hmem x).1 hx).elim (ha.1 x) (hb.1 x)
  rcases h with ⟨⟨x, hx, nx⟩, rfl, rfl⟩ | ⟨_, h2, rfl, rfl⟩ | ⟨_, _, h3, rfl, rfl⟩ | ⟨h1, h2, rfl, h3, h4⟩
  · exact absurd (hlb x hx) nx
  · exact absurd hap h2
  · refine .inr ⟨by decide, rfl, fun c hc => ?_⟩
    have hp : (a ++ b.filter fun y => decide (∀ x ∈ a, x.name ≠ y.name)).Nodup := List.Pairwise.imp (fun h e => h (by rw [e])) hap
    have : (a ++ b.filter fun y => decide (∀ x ∈ a, x.name ≠ y.name)).length ≤ c.length := by
      exact nodup_len hp (fun x hx => (hc.2 x).2 ((hmem x).1 hx))
    have := hc.1.2.2
    omega
  · exact .inl ⟨by decide, ⟨fun x hx => h1 x (h4.mem_iff.1 hx), h3, by rw [h4.length_eq]; exact h2⟩, fun x => h4.mem_iff.trans (hmem x)⟩
theorem JoinQ.unlike {a b : List Lb} (hu : Unlike a b) : JoinQ a b [] false := by
  refine .inr ⟨rfl, rfl, fun c hc => ?_⟩
  obtain ⟨x, hx, y, hy, h1, h2⟩ := hu
  have := hc.1.2.1.one ((hc.2 x).2 (.inl hx)) ((hc.2 y).2 (.inr hy)) h1
  exact h2 (by rw [this])
end Go.Proofs.YtiajafljgfpdcaaGreat
