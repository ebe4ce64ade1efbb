/- Sets of labels: keys (P9.5, P9.8), Compare, With, matchers: the mathematics. -/
import Derived.Test.YtiajafljgfpdcaaGreatLm
namespace Go.Proofs.YtiajafljgfpdcaaGreat
/-- A value's bytes, a sign ahead of each that wants one. -/
def esc : List Int → List Int
  | [] => []
  | c :: l => if c = 92 ∨ c = 34 then 92 :: c :: esc l else c :: esc l
theorem esc_append (x y : List Int) : esc (x ++ y) = esc x ++ esc y := by
  induction x with
  | nil => rfl
  | cons c x ih => by_cases h : c = 92 ∨ c = 34 <;> simp [esc, h, ih]
theorem esc_bytes {x : List Int} (h : IsBytes x) : IsBytes (esc x) := by
  induction x with
  | nil => intro c hc; cases hc
  | cons c x ih =>
    have h1 := h c (by simp)
    have h2 := ih fun d hd => h d (by simp [hd])
    intro d hd
    by_cases hc : c = 92 ∨ c = 34
    · simp only [esc, hc, if_true, List.mem_cons] at hd
      rcases hd with rfl | rfl | hd
      · omega
      · exact h1
      · exact h2 d hd
    · simp only [esc, hc, if_false, List.mem_cons] at hd
      rcases hd with rfl | hd
      · exact h1
      · exact h2 d hd
theorem esc_len (x : List Int) : (esc x).length ≤ 2 * x.length := by
  induction x with
  | nil => simp [esc]
  | cons c x ih => by_cases h : c = 92 ∨ c = 34 <;> simp [esc, h] <;> omega
theorem esc_split : ∀ {x y p q : List Int}, esc x ++ 34 :: p = esc y ++ 34 :: q → x = y ∧ p = q
  | [], [], p, q, h => ⟨rfl, by simpa [esc] using h⟩
  | [], d :: y, p, q, h => by
    exfalso
    by_cases hd : d = 92 ∨ d = 34
    · simp [esc, hd] at h
    · simp [esc, hd] at h; omega
  | c :: x, [], p, q, h => by
    exfalso
    by_cases hc : c = 92 ∨ c = 34
    · simp [esc, hc] at h
    · simp [esc, hc] at h; omega
  | c :: x, d :: y, p, q, h => by
    by_cases hc : c = 92 ∨ c = 34 <;> by_cases hd : d = 92 ∨ d = 34
    · simp only [esc, hc, hd, if_true, List.cons_append, List.cons.injEq, true_and] at h
      obtain ⟨h1, h2⟩ := esc_split h.2
      exact ⟨by rw [h.1, h1], h2⟩
    · simp only [esc, hc, hd, if_true, if_false, List.cons_append, List.cons.injEq] at h
      omega
    · simp only [esc, hc, hd, if_true, if_false, List.cons_append, List.cons.injEq] at h
      omega
    · simp only [esc, hc, hd, if_false, List.cons_append, List.cons.injEq] at h
      obtain ⟨h1, h2⟩ := esc_split h.2
      exact ⟨by rw [h.1, h1], h2⟩
/-- A name has no sign =. -/
theorem name_no {s : ByteArray} (h : IsName s) : ∀ c ∈ numsS s, c ≠ 61 := by
  intro c hc e
  obtain ⟨k, hk, e2⟩ := List.mem_iff_getElem.1 hc
  have := h.2 k hk
  rw [e2, e] at this
  cases hb : (k == 0) <;> rw [hb] at this <;> simp [nameC] at this
theorem name_split : ∀ {x y p q : List Int}, (∀ c ∈ x, c ≠ 61) → (∀ c ∈ y, c ≠ 61) → x ++ 61 :: p = y ++ 61 :: q → x = y ∧ p = q
  | [], [], _, _, _, _, h => ⟨rfl, by simpa using h⟩
  | [], d :: y, _, _, _, hy, h => by
    have := hy d (by simp)
    simp at h
    omega
  | c :: x, [], _, _, hx, _, h => by
    have := hx c (by simp)
    simp at h
    omega
  | c :: x, d :: y, _, _, hx, hy, h => by
    simp only [List.cons_append, List.cons.injEq] at h
    obtain ⟨h1, h2⟩ := name_split (fun e he => hx e (by simp [he])) (fun e he => hy e (by simp [he])) h.2
    exact ⟨by rw [h.1, h1], h2⟩
/-- A label in a key. -/
def labK (a : Lb) : List Int := numsS a.name ++ [61, 34] ++ esc (numsS a.value) ++ [34]
/-- The labels behind the first one. -/
def restK : List Lb → List Int
  | [] => []
  | a :: l => 44 :: labK a ++ restK l
def bodyK : List Lb → List Int
  | [] => []
  | a :: l => labK a ++ restK l
/-- Key. -/
def keyL (l : List Lb) : List Int := 123 :: bodyK l ++ [125]
theorem restK_append (l m : List Lb) : restK (l ++ m) = restK l ++ restK m := by
  induction l with
  | nil => rfl
  | cons a l ih => simp [restK, ih]
/-- One label more: a comma ahead of it, but for the first one. -/
theorem bodyK_snoc (l : List Lb) (a : Lb) : bodyK (l ++ [a]) = bodyK l ++ (if l = [] then [] else [44]) ++ labK a := by
  cases l with
  | nil => simp [bodyK, restK]
  | cons b l => simp [bodyK, restK_append, restK]
theorem labK_split {a b : Lb} {p q : List Int} (ha : IsName a.name) (hb : IsName b.name) (h : labK a ++ p = labK b ++ q) : a = b ∧ p = q := by
  simp only [labK, List.append_assoc, List.cons_append, List.nil_append] at h
  obtain ⟨h1, h2⟩ := name_split (name_no ha) (name_no hb) h
  simp only [List.cons.injEq, true_and] at h2
  obtain ⟨h3, h4⟩ := esc_split h2
  refine ⟨?_, h4⟩
  have e1 := numsS_inj h1
  have e2 := numsS_inj h3
  cases a; cases b; simp at e1 e2; simp [e1, e2]
theorem restK_split : ∀ {l m : List Lb}, (∀ a ∈ l, IsName a.name) → (∀ a ∈ m, IsName a.name) → restK l ++ [125] = restK m ++ [125] → l = m
  | [], [], _, _, _ => rfl
  | [], _ :: _, _, _, h => by simp [restK] at h
  | _ :: _, [], _, _, h => by simp [restK] at h
  | a :: l, b :: m, hl, hm, h => by
    simp only [restK, List.cons_append, List.append_assoc, List.cons.injEq, true_and] at h
    obtain ⟨h1, h2⟩ := labK_split (hl a (by simp)) (hm b (by simp)) h
    rw [h1, restK_split (fun x hx => hl x (by simp [hx])) (fun x hx => hm x (by simp [hx])) h2]
theorem labK_head {a : Lb} (h : IsName a.name) : ∃ c r, labK a = c :: r ∧ c ≠ 125 := by
  have h1 : 0 < (numsS a.name).length := by rw [numsS_length]; exact h.1.1
  have h2 := h.2 0 h1
  cases e : numsS a.name with
  | nil => rw [e] at h1; cases h1
  | cons c r =>
    refine ⟨c, r ++ [61, 34] ++ esc (numsS a.value) ++ [34], by simp [labK, e], ?_⟩
    simp only [e, List.getElem_cons_zero] at h2
    intro h3
    rw [h3] at h2
    simp [nameC] at h2
/-- Unlike sets have unlike keys. -/
theorem keyL_inj {l m : List Lb} (hl : ∀ a ∈ l, IsName a.name) (hm : ∀ a ∈ m, IsName a.name) (h : keyL l = keyL m) : l = m := by
  simp only [keyL, List.cons_append, List.cons.injEq, true_and] at h
  cases l with
  | nil =>
    cases m with
    | nil => rfl
    | cons b m =>
      obtain ⟨c, r, e, _⟩ := labK_head (hm b (by simp))
      simp [bodyK, e] at h
  | cons a l =>
    cases m with
    | nil =>
      obtain ⟨c, r, e, _⟩ := labK_head (hl a (by simp))
      simp [bodyK, e] at h
    | cons b m =>
      simp only [bodyK, List.append_assoc] at h
      obtain ⟨h1, h2⟩ := labK_split (hl a (by simp)) (hm b (by simp)) h
      rw [h1, restK_split (fun x hx => hl x (by simp [hx])) (fun x hx => hm x (by simp [hx])) h2]

/-! ### Compare -/
/-- Of two labels. -/
def cmpB (a b : Lb) : Int := if cmpL (numsS a.name) (numsS b.name) = 0 then cmpL (numsS a.value) (numsS b.value) else cmpL (numsS a.name) (numsS b.name)
def cmpS : List Lb → List Lb → Int
  | [], [] => 0
  | [], _ :: _ => -1
  | _ :: _, [] => 1
  | a :: l, b :: m => if cmpB a b = 0 then cmpS l m else cmpB a b
theorem cmpB_in (a b : Lb) : cmpB a b = -1 ∨ cmpB a b = 0 ∨ cmpB a b = 1 := by unfold cmpB; split <;> exact cmpL_in _ _
theorem cmpB_neg (a b : Lb) : cmpB b a = - cmpB a b := by
  unfold cmpB
  rw [cmpL_neg (numsS a.name), cmpL_neg (numsS a.value)]
  by_cases h : cmpL (numsS a.name) (numsS b.name) = 0
  · rw [if_pos h, if_pos (by omega)]
  · rw [if_neg h, if_neg (by omega)]
theorem cmpB_eq {a b : Lb} : cmpB a b = 0 ↔ a = b := by
  refine ⟨fun h => ?_, fun h => by subst h; simp [cmpB, cmpL_self]⟩
  unfold cmpB at h
  by_cases h1 : cmpL (numsS a.name) (numsS b.name) = 0
  · rw [if_pos h1] at h
    have e1 := numsS_inj (cmpL_eq h1)
    have e2 := numsS_inj (cmpL_eq h)
    cases a; cases b; simp at e1 e2; simp [e1, e2]
  · rw [if_neg h1] at h; exact absurd h h1
theorem cmpS_in : ∀ l m : List Lb, cmpS l m = -1 ∨ cmpS l m = 0 ∨ cmpS l m = 1
  | [], [] => by simp [cmpS]
  | [], _ :: _ => by simp [cmpS]
  | _ :: _, [] => by simp [cmpS]
  | a :: l, b :: m => by
    rw [cmpS]
    split
    · exact cmpS_in l m
    · exact cmpB_in a b
theorem cmpS_neg : ∀ l m : List Lb, cmpS m l = - cmpS l m
  | [], [] => by simp [cmpS]
  | [], _ :: _ => by simp [cmpS]
  | _ :: _, [] => by simp [cmpS]
  | a :: l, b :: m => by
    rw [cmpS, cmpS, cmpB_neg a b, cmpS_neg l m]
    by_cases h : cmpB a b = 0
    · rw [if_pos h, if_pos (by omega)]
    · rw [if_neg h, if_neg (by omega)]
theorem cmpS_eq : ∀ {l m : List Lb}, cmpS l m = 0 ↔ l = m
  | [], [] => by simp [cmpS]
  | [], _ :: _ => by simp [cmpS]
  | _ :: _, [] => by simp [cmpS]
  | a :: l, b :: m => by
    rw [cmpS]
    by_cases h : cmpB a b = 0
    · rw [if_pos h, cmpS_eq, cmpB_eq.1 h]; simp
    · rw [if_neg h]
      refine ⟨fun g => absurd g h, fun g => ?_⟩
      simp only [List.cons.injEq] at g
      exact absurd (cmpB_eq.2 g.1) h

/-! ### With -/
def namesL (l : List Lb) : List ByteArray := l.map (·.name)
theorem inB_names {l : List Lb} {s : ByteArray} : inB (namesL l) s = true ↔ ∃ a ∈ l, a.name = s := by simp [inB, namesL]
/-- What With hands to Make. -/
def withL (l more : List Lb) : List Lb := more ++ withoutL l (namesL more)
theorem withL_nil (l : List Lb) : withL l [] = l := by simp [withL, withoutL, namesL, inB]
theorem withL_lb {l more : List Lb} (hl : IsSet l) (hm : IsSet more) : ∀ a ∈ withL l more, IsLb a := by
  intro a ha
  rcases List.mem_append.1 ha with h | h
  · exact hm.1 a h
  · exact hl.1 a (List.mem_filter.1 h).1
theorem withL_apart {l more : List Lb} (hl : IsSet l) (hm : IsSet more) : Apart (withL l more) := by
  unfold Apart withL
  rw [List.pairwise_append]
  refine ⟨hm.2.1.apart, (hl.2.1.filter _).apart, fun x hx y hy e => ?_⟩
  have h1 := (List.mem_filter.1 hy).2
  have h2 : inB (namesL more) y.name = true := inB_names.2 ⟨x, hx, e⟩
  rw [h2] at h1
  cases h1
/-- With of two sets: the set, or too many. -/
theorem with_form {l more out : List Lb} {e : Int} (hl : IsSet l) (hm : IsSet more) (h : MkQ (withL l more) out e) :
    (e = 6 ∧ out = []) ∨ (e = 0 ∧ IsSet out ∧ out.length ≤ l.length + more.length ∧ ∀ x, x ∈ out ↔ x ∈ withL l more) := by
  rcases h with ⟨⟨a, ha, na⟩, _, _⟩ | ⟨_, h2, _, _⟩ | ⟨_, _, _, h3, h4⟩ | ⟨h1, h2, h3, h4, h5⟩
  · exact absurd (withL_lb hl hm a ha) na
  · exact absurd (withL_apart hl hm) h2
  · exact .inl ⟨h3, h4⟩
  · refine .inr ⟨h3, ⟨fun a ha => h1 a (h5.mem_iff.1 ha), h4, by rw [h5.length_eq]; exact h2⟩, ?_, fun x => h5.mem_iff⟩
    rw [h5.length_eq, withL, List.length_append]
    have : (withoutL l (namesL more)).length ≤ l.length := List.length_filter_le _ _
    omega
theorem with_none {l out : List Lb} {e : Int} (hl : IsSet l) (h : MkQ (withL l []) out e) : e = 0 ∧ out = l := by
  rw [withL_nil] at h
  obtain ⟨h1, h2⟩ := h.one hl.make
  exact ⟨h2, h1⟩
/-- With again: the same. -/
theorem with_again {l more x out : List Lb} {e : Int} (hm : IsSet more) (hx : IsSet x) (hmem : ∀ a, a ∈ x ↔ a ∈ withL l more) (h : MkQ (withL x more) out e) : e = 0 ∧ out = x := by
  have key : ∀ a, a ∈ withL x more ↔ a ∈ x := by
    intro a
    rw [hmem a]
    simp only [withL, withoutL, List.mem_append, List.mem_filter]
    refine ⟨fun g => g.elim .inl (fun g => ?_), fun g => g.elim .inl (fun g => ?_)⟩
    · have := (hmem a).1 g.1
      simp only [withL, withoutL, List.mem_append, List.mem_filter] at this
      exact this
    · exact .inr ⟨(hmem a).2 (by simp only [withL, withoutL, List.mem_append, List.mem_filter]; exact .inr g), g.2⟩
  rcases with_form hx hm h with ⟨rfl, rfl⟩ | ⟨rfl, h1, _, h3⟩
  · exfalso
    rcases h with ⟨_, h2, _⟩ | ⟨_, _, h2, _⟩ | ⟨_, ap, h2, _, _⟩ | ⟨_, _, h2, _, _⟩
    · omega
    · omega
    · have hn : (withL x more).Nodup := List.Pairwise.imp (fun h e => h (by rw [e])) ap
      have h5 := nodup_len hn (fun a ha => (key a).1 ha)
      have := hx.2.2
      omega
    · omega
  · exact ⟨rfl, rise_eq h1.2.1 hx.2.1 fun a => (h3 a).trans (key a)⟩
/-- What comes behind is there; and what of the set has no part of it. -/
theorem with_get {l more x : List Lb} (hx : IsSet x) (hmem : ∀ a, a ∈ x ↔ a ∈ withL l more) :
    (∀ a ∈ more, getL x a.name = a.value) ∧ ∀ a ∈ l, (∀ b ∈ more, b.name ≠ a.name) → getL x a.name = a.value := by
  refine ⟨fun a ha => getL_mem hx.2.1 ((hmem a).2 (List.mem_append.2 (.inl ha))), fun a ha hn => getL_mem hx.2.1 ((hmem a).2 (List.mem_append.2 (.inr ?_)))⟩
  refine List.mem_filter.2 ⟨ha, ?_⟩
  cases h : inB (namesL more) a.name with
  | false => rfl
  | true =>
    obtain ⟨b, hb, e⟩ := inB_names.1 h
    exact absurd e (hn b hb)
end Go.Proofs.YtiajafljgfpdcaaGreat
