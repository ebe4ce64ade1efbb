/- Keys as lists of bytes: texts, parts, lists of parts; their order. -/
import Derived.Test.YtkhnhnaefmcngaaKm
namespace Go.Proofs.Ytkhnhnaefmcngaa
/-- The first n bytes, filled up with bytes 0. -/
def padN : Nat → List Int → List Int
  | 0, _ => []
  | n + 1, [] => 0 :: padN n []
  | n + 1, a :: l => a :: padN n l
theorem padN_len (n : Nat) (l : List Int) : (padN n l).length = n := by
  induction n generalizing l with
  | zero => rfl
  | succ n ih => cases l <;> simp [padN, ih]
theorem padN_short (n : Nat) (l : List Int) (h : l.length ≤ n) : padN n l = l ++ List.replicate (n - l.length) 0 := by
  induction n generalizing l with
  | zero => cases l <;> simp_all [padN]
  | succ n ih =>
    cases l with
    | nil => rw [padN, ih [] (by simp)]; simp [List.replicate_succ]
    | cons a l => rw [padN, ih l (by simpa using h)]; simp
theorem padN_long (n : Nat) (l : List Int) (h : n ≤ l.length) : padN n l = l.take n := by
  induction n generalizing l with
  | zero => simp [padN]
  | succ n ih =>
    cases l with
    | nil => simp at h
    | cons a l => rw [padN, ih l (by simpa using h)]; rfl
theorem padN_take (n : Nat) (l : List Int) (h : l.length ≤ n) : (padN n l).take l.length = l := by
  rw [padN_short n l h]; simp
theorem padN_bytes (n : Nat) (l : List Int) (h : IsBytes l) : IsBytes (padN n l) := by
  induction n generalizing l with
  | zero => intro c hc; cases hc
  | succ n ih =>
    cases l with
    | nil =>
      intro c hc
      rcases List.mem_cons.1 hc with rfl | hc
      · omega
      · exact ih [] h c hc
    | cons a l =>
      intro c hc
      rcases List.mem_cons.1 hc with rfl | hc
      · exact h c (by simp)
      · exact ih l (fun d hd => h d (by simp [hd])) c hc
/-- The groups of a text. -/
def groups (l : List Int) : List Int := if l.length ≤ 8 then padN 8 l ++ [(l.length : Int)] else padN 8 l ++ 9 :: groups (l.drop 8)
termination_by l.length
decreasing_by simp; omega
theorem groups_last (l : List Int) (h : l.length ≤ 8) : groups l = padN 8 l ++ [(l.length : Int)] := by rw [groups, if_pos h]
theorem groups_more (l : List Int) (h : 8 < l.length) : groups l = l.take 8 ++ 9 :: groups (l.drop 8) := by rw [groups, if_neg (by omega), padN_long 8 l (by omega)]
/-- What stands behind the first group. -/
def after (l : List Int) : List Int := if l.length ≤ 8 then [(l.length : Int)] else 9 :: groups (l.drop 8)
theorem groups_any (l : List Int) : groups l = padN 8 l ++ after l := by
  rw [groups, after]; split <;> rfl
/-- How far two texts part within their first n bytes. -/
theorem pad_lt (n : Nat) : ∀ l m : List Int, IsBytes m → cmpL l m = -1 → Lt0 (padN n l) (padN n m) ∨ (padN n l = padN n m ∧ ((l.length ≤ n ∧ l.length < m.length) ∨ (n < l.length ∧ n < m.length ∧ cmpL (l.drop n) (m.drop n) = -1))) := by
  induction n with
  | zero =>
    intro l m _ h
    refine .inr ⟨rfl, ?_⟩
    cases l with
    | nil =>
      cases m with
      | nil => simp [cmpL] at h
      | cons b m => exact .inl (by simp)
    | cons a l =>
      cases m with
      | nil => simp [cmpL] at h
      | cons b m => exact .inr (by simpa using h)
  | succ n ih =>
    intro l m hb h
    cases l with
    | nil =>
      cases m with
      | nil => simp [cmpL] at h
      | cons b m =>
        have h0 := hb b (by simp)
        by_cases hz : b = 0
        · subst hz
          cases m with
          | nil => exact .inr ⟨rfl, .inl (by simp)⟩
          | cons c m =>
            rcases ih [] (c :: m) (fun d hd => hb d (by simp at hd ⊢; exact .inr hd)) rfl with h | ⟨h1, h2⟩
            · exact .inl (.inr ⟨rfl, h⟩)
            · exact .inr ⟨by rw [padN, padN, h1], .inl (by simp)⟩
        · exact .inl (.inl (by omega))
    | cons a l =>
      cases m with
      | nil => simp [cmpL] at h
      | cons b m =>
        have hbm : IsBytes m := fun d hd => hb d (by simp [hd])
        unfold cmpL at h
        by_cases h1 : a < b
        · exact .inl (.inl h1)
        · rw [if_neg h1] at h
          by_cases h2 : b < a
          · rw [if_pos h2] at h; omega
          · rw [if_neg h2] at h
            obtain rfl : a = b := by omega
            rcases ih l m hbm h with h | ⟨h3, h4⟩
            · exact .inl (.inr ⟨rfl, h⟩)
            · refine .inr ⟨by rw [padN, padN, h3], ?_⟩
              simpa using h4
/-- Texts are in their order. -/
theorem groups_lt (l m : List Int) (hm : IsBytes m) (h : cmpL l m = -1) : Lt0 (groups l) (groups m) := by
  induction hn : l.length using Nat.strongRecOn generalizing l m with
  | _ n ih =>
    subst hn
    rcases pad_lt 8 l m hm h with hp | ⟨he, hp | ⟨h1, h2, h3⟩⟩
    · rw [groups_any l, groups_any m]
      exact hp.append _ _
    · by_cases h8 : m.length ≤ 8
      · rw [groups_last l (by omega), groups_last m h8, he]
        exact Lt0.behind (x := [(l.length : Int)]) (y := [(m.length : Int)]) (Or.inl (by omega)) _
      · rw [groups_last l (by omega), groups, if_neg h8, he]
        exact Lt0.behind (x := [(l.length : Int)]) (y := 9 :: groups (m.drop 8)) (Or.inl (by omega)) _
    · rw [groups_any l, groups_any m, he, after, after, if_neg (by omega), if_neg (by omega)]
      exact Lt0.behind (x := 9 :: groups (l.drop 8)) (y := 9 :: groups (m.drop 8)) (Or.inr ⟨rfl, ih _ (by simp; omega) _ _ (hm.drop 8) h3 rfl⟩) _
theorem groups_len (l : List Int) : l.length < (groups l).length ∧ (groups l).length ≤ 2 * l.length + 9 := by
  induction hn : l.length using Nat.strongRecOn generalizing l with
  | _ n ih =>
    subst hn
    by_cases h : l.length ≤ 8
    · rw [groups_last l h]; simp [padN_len]; omega
    · rw [groups_more l (by omega)]
      have := ih _ (by simp; omega) (l.drop 8) rfl
      simp at this ⊢; omega
theorem groups_bytes (l : List Int) (h : IsBytes l) : IsBytes (groups l) := by
  induction hn : l.length using Nat.strongRecOn generalizing l with
  | _ n ih =>
    subst hn
    by_cases h8 : l.length ≤ 8
    · rw [groups_last l h8]
      refine isBytes_append (padN_bytes 8 l h) ?_
      intro c hc
      simp at hc; omega
    · rw [groups_more l (by omega)]
      refine isBytes_append (h.take 8) ?_
      intro c hc
      rcases List.mem_cons.1 hc with rfl | hc
      · omega
      · exact ih _ (by simp; omega) _ (h.drop 8) rfl c hc
/-- A string's bytes as numbers. -/
def numsS (s : ByteArray) : List Int := s.data.toList.map fun b => (b.toNat : Int)
theorem numsS_length (s : ByteArray) : (numsS s).length = s.size := by rw [numsS, List.length_map, Array.length_toList]; rfl
theorem numsS_bytes (s : ByteArray) : IsBytes (numsS s) := by
  intro c hc
  obtain ⟨b, _, rfl⟩ := List.mem_map.1 hc
  have := b.toNat_lt
  omega
theorem numsS_inj {s t : ByteArray} (h : numsS s = numsS t) : s = t := by
  have : s.data.toList = t.data.toList := by
    unfold numsS at h
    refine List.map_inj_right (f := fun b : UInt8 => (b.toNat : Int)) ?_ |>.1 h
    intro a b e
    exact UInt8.toNat_inj.1 (Int.ofNat.inj e)
  cases s; cases t
  simp at this
  rw [ByteArray.mk.injEq]
  exact Array.toList_inj.1 (by simpa using this)
/-- A text's bytes. -/
def textB (s : ByteArray) : List Int := 160 :: groups (numsS s)
/-- A part. -/
structure Pt where
  kind : Int
  num : Int
  text : ByteArray
theorem Pt.ext3 {p q : Pt} (h1 : p.kind = q.kind) (h2 : p.num = q.num) (h3 : p.text = q.text) : p = q := by
  cases p; cases q; simp_all
/-- What is wrong with a part. -/
def errP (p : Pt) : Int := if p.kind = 1 ∧ p.text.size = 0 ∨ p.kind = 2 ∧ p.num = 0 then (if 256 < p.text.size then 1 else 0) else 2
/-- A part that Put takes. -/
def OkP (p : Pt) : Prop := (p.kind = 1 ∧ p.text.size = 0 ∧ I64 p.num) ∨ (p.kind = 2 ∧ p.num = 0 ∧ p.text.size ≤ 256)
theorem errP_ok {p : Pt} (h : OkP p) : errP p = 0 := by
  unfold errP
  rcases h with ⟨h1, h2, _⟩ | ⟨h1, h2, h3⟩
  · rw [if_pos (.inl ⟨h1, h2⟩), if_neg (by omega)]
  · rw [if_pos (.inr ⟨h1, h2⟩), if_neg (by omega)]
theorem okP_of {p : Pt} (hi : I64 p.num) (h : errP p = 0) : OkP p := by
  unfold errP at h
  split at h
  · next h' =>
    split at h
    · omega
    · rcases h' with ⟨h1, h2⟩ | ⟨h1, h2⟩
      · exact .inl ⟨h1, h2, hi⟩
      · exact .inr ⟨h1, h2, by omega⟩
  · omega
theorem OkP.in64 {p : Pt} (h : OkP p) : I64 p.num := by
  rcases h with ⟨_, _, h⟩ | ⟨_, h, _⟩
  · exact h
  · rw [h]; constructor <;> omega
/-- A part's bytes. -/
def partB (p : Pt) : List Int := if p.kind = 1 then numB p.num else textB p.text
theorem partB_num {p : Pt} (h : p.kind = 1) : partB p = numB p.num := by rw [partB, if_pos h]
theorem partB_text {p : Pt} (h : p.kind = 2) : partB p = textB p.text := by rw [partB, if_neg (by omega)]
/-- The order of two numbers. -/
def cmpI (a b : Int) : Int := if a < b then -1 else if b < a then 1 else 0
theorem cmpI_neg (a b : Int) : cmpI b a = - cmpI a b := by unfold cmpI; split <;> split <;> (try split) <;> omega
theorem cmpI_in (a b : Int) : cmpI a b = -1 ∨ cmpI a b = 0 ∨ cmpI a b = 1 := by unfold cmpI; split <;> (try split) <;> omega
/-- The order of two parts. -/
def cmpP (p q : Pt) : Int := if p.kind = q.kind then (if p.kind = 1 then cmpI p.num q.num else cmpL (numsS p.text) (numsS q.text)) else cmpI p.kind q.kind
theorem cmpP_neg (p q : Pt) : cmpP q p = - cmpP p q := by
  unfold cmpP
  by_cases h : p.kind = q.kind
  · rw [if_pos h, if_pos h.symm, h]
    split
    · exact cmpI_neg _ _
    · exact cmpL_neg _ _
  · rw [if_neg h, if_neg (fun e => h e.symm)]
    exact cmpI_neg _ _
theorem cmpP_in (p q : Pt) : cmpP p q = -1 ∨ cmpP p q = 0 ∨ cmpP p q = 1 := by
  unfold cmpP
  split
  · split
    · exact cmpI_in _ _
    · exact cmpL_in _ _
  · exact cmpI_in _ _
theorem cmpP_eq {p q : Pt} (hp : OkP p) (hq : OkP q) (h : cmpP p q = 0) : p = q := by
  unfold cmpP at h
  have e0 : ∀ s : ByteArray, s.size = 0 → numsS s = [] := fun s hs => List.length_eq_zero_iff.1 (by rw [numsS_length, hs])
  split at h
  · next hk =>
    split at h
    · next h1 =>
      have hn : p.num = q.num := by unfold cmpI at h; split at h <;> (try split at h) <;> omega
      refine Pt.ext3 hk hn (numsS_inj ?_)
      rcases hp with ⟨_, h2, _⟩ | ⟨h2, _⟩
      · rcases hq with ⟨_, h3, _⟩ | ⟨h3, _⟩
        · rw [e0 _ h2, e0 _ h3]
        · omega
      · omega
    · next h1 =>
      refine Pt.ext3 hk ?_ (numsS_inj (cmpL_eq h))
      rcases hp with ⟨h2, _⟩ | ⟨_, h2, _⟩
      · omega
      · rcases hq with ⟨h3, _⟩ | ⟨_, h3, _⟩
        · omega
        · rw [h2, h3]
  · next hk => unfold cmpI at h; split at h <;> (try split at h) <;> omega
theorem cmpP_self (p : Pt) : cmpP p p = 0 := by
  unfold cmpP
  rw [if_pos rfl]
  split
  · unfold cmpI; rw [if_neg (by omega), if_neg (by omega)]
  · exact cmpL_self _
/-- Parts are in their order. -/
theorem partB_lt {p q : Pt} (hp : OkP p) (hq : OkP q) (h : cmpP p q = -1) : Lt0 (partB p) (partB q) := by
  unfold cmpP at h
  rcases hp with ⟨k1, _, i1⟩ | ⟨k1, _, s1⟩
  · rcases hq with ⟨k2, _, i2⟩ | ⟨k2, _, s2⟩
    · rw [if_pos (by omega), if_pos k1] at h
      rw [partB_num k1, partB_num k2]
      refine numB_lt i1 i2 ?_
      unfold cmpI at h; split at h <;> (try split at h) <;> omega
    · rw [partB_num k1, partB_text k2]
      exact .inl (by have := headN_in i1; omega)
  · rcases hq with ⟨k2, _, i2⟩ | ⟨k2, _, s2⟩
    · rw [if_neg (by omega), k1, k2] at h
      simp [cmpI] at h
    · rw [if_pos (by omega), if_neg (by omega)] at h
      rw [partB_text k1, partB_text k2]
      exact .inr ⟨rfl, groups_lt _ _ (numsS_bytes _) h⟩
theorem partB_head {p : Pt} (hp : OkP p) : ∃ c r, partB p = c :: r ∧ 119 ≤ c ∧ c ≤ 160 := by
  rcases hp with ⟨k1, _, i1⟩ | ⟨k1, _, s1⟩
  · exact ⟨_, _, partB_num k1, by have := headN_in i1; omega, by have := headN_in i1; omega⟩
  · exact ⟨_, _, partB_text k1, by omega, by omega⟩
theorem partB_bytes {p : Pt} (hp : OkP p) : IsBytes (partB p) := by
  rcases hp with ⟨k1, _, i1⟩ | ⟨k1, _, s1⟩
  · rw [partB_num k1]; exact numB_bytes i1
  · rw [partB_text k1]
    intro c hc
    rcases List.mem_cons.1 hc with rfl | hc
    · omega
    · exact groups_bytes _ (numsS_bytes _) c hc
theorem partB_len {p : Pt} (hp : OkP p) : (partB p).length ≤ 522 := by
  rcases hp with ⟨k1, _, i1⟩ | ⟨k1, _, s1⟩
  · rw [partB_num k1]; have := numB_len i1; omega
  · rw [partB_text k1]
    have := groups_len (numsS p.text)
    rw [numsS_length] at this
    simp [textB]; omega
/-- The bytes of parts, one behind the other. -/
def keyB (l : List Pt) : List Int := (l.map partB).flatten
theorem keyB_nil : keyB [] = [] := rfl
theorem keyB_cons (p : Pt) (l : List Pt) : keyB (p :: l) = partB p ++ keyB l := by simp [keyB]
theorem keyB_append (a b : List Pt) : keyB (a ++ b) = keyB a ++ keyB b := by simp [keyB]
theorem keyB_take (l : List Pt) (d : Pt) (k : Nat) (h : k < l.length) : keyB (l.take (k + 1)) = keyB (l.take k) ++ partB (l.getD k d) := by
  rw [List.take_succ_eq_append_getElem h, keyB_append]
  simp [keyB, h]
/-- Parts that Put takes each. -/
def Oks (l : List Pt) : Prop := ∀ p ∈ l, OkP p
/-- Lists that Put takes. -/
def Ok (l : List Pt) : Prop := l.length ≤ 8 ∧ Oks l
theorem Oks.tail {p : Pt} {l : List Pt} (h : Oks (p :: l)) : Oks l := fun q hq => h q (List.mem_cons_of_mem _ hq)
theorem keyB_bytes {l : List Pt} (h : Oks l) : IsBytes (keyB l) := by
  induction l with
  | nil => intro c hc; cases hc
  | cons p l ih => rw [keyB_cons]; exact isBytes_append (partB_bytes (h p (by simp))) (ih h.tail)
theorem keyB_len {l : List Pt} (h : Oks l) : l.length ≤ (keyB l).length ∧ (keyB l).length ≤ 522 * l.length := by
  induction l with
  | nil => simp [keyB]
  | cons p l ih =>
    rw [keyB_cons]
    have h1 := ih h.tail
    have h2 := partB_len (h p (by simp))
    obtain ⟨c, r, e, _⟩ := partB_head (h p (by simp))
    have h3 : 1 ≤ (partB p).length := by rw [e]; simp
    simp; omega
theorem keyB_head {l : List Pt} (h : Oks l) (hne : l ≠ []) : ∃ c r, keyB l = c :: r ∧ 119 ≤ c ∧ c ≤ 160 := by
  cases l with
  | nil => exact absurd rfl hne
  | cons p l =>
    obtain ⟨c, r, e, h1, h2⟩ := partB_head (h p (by simp))
    exact ⟨c, r ++ keyB l, by rw [keyB_cons, e]; rfl, h1, h2⟩
/-- The order of two lists of parts. -/
def cmpK : List Pt → List Pt → Int
  | [], [] => 0
  | [], _ :: _ => -1
  | _ :: _, [] => 1
  | p :: l, q :: m => if cmpP p q = 0 then cmpK l m else cmpP p q
theorem cmpK_neg : ∀ l m : List Pt, cmpK m l = - cmpK l m
  | [], [] => rfl
  | [], _ :: _ => rfl
  | _ :: _, [] => rfl
  | p :: l, q :: m => by
    unfold cmpK
    rw [cmpP_neg p q]
    by_cases h : cmpP p q = 0
    · rw [if_pos (by omega), if_pos h]; exact cmpK_neg l m
    · rw [if_neg (by omega), if_neg h]
theorem cmpK_eq : ∀ {l m : List Pt}, Oks l → Oks m → cmpK l m = 0 → l = m
  | [], [], _, _, _ => rfl
  | [], _ :: _, _, _, h => by simp [cmpK] at h
  | _ :: _, [], _, _, h => by simp [cmpK] at h
  | p :: l, q :: m, hl, hm, h => by
    unfold cmpK at h
    split at h
    · next h0 => rw [cmpP_eq (hl p (by simp)) (hm q (by simp)) h0, cmpK_eq hl.tail hm.tail h]
    · omega
theorem cmpK_in : ∀ l m : List Pt, cmpK l m = -1 ∨ cmpK l m = 0 ∨ cmpK l m = 1
  | [], [] => by simp [cmpK]
  | [], _ :: _ => by simp [cmpK]
  | _ :: _, [] => by simp [cmpK]
  | p :: l, q :: m => by
    unfold cmpK
    split
    · exact cmpK_in l m
    · exact cmpP_in p q
theorem cmpK_lt : ∀ {l m : List Pt}, Oks l → Oks m → cmpK l m = -1 → cmpL (keyB l) (keyB m) = -1
  | [], [], _, _, h => by simp [cmpK] at h
  | [], q :: m, _, hm, _ => by
    obtain ⟨c, r, e, _⟩ := keyB_head hm (by simp)
    rw [e]; rfl
  | _ :: _, [], _, _, h => by simp [cmpK] at h
  | p :: l, q :: m, hl, hm, h => by
    unfold cmpK at h
    rw [keyB_cons, keyB_cons]
    split at h
    · next h0 =>
      rw [cmpP_eq (hl p (by simp)) (hm q (by simp)) h0, cmpL_behind]
      exact cmpK_lt hl.tail hm.tail h
    · exact ((partB_lt (hl p (by simp)) (hm q (by simp)) h).append _ _).cmp
/-- Keys are in the order of their parts. -/
theorem key_order {l m : List Pt} (hl : Oks l) (hm : Oks m) : cmpL (keyB l) (keyB m) = cmpK l m := by
  rcases cmpK_in l m with h | h | h
  · rw [h]; exact cmpK_lt hl hm h
  · rw [h, cmpK_eq hl hm h, cmpL_self]
  · have h2 : cmpK m l = -1 := by rw [cmpK_neg, h]
    have h3 := cmpK_lt hm hl h2
    rw [cmpL_neg, h3, h]; rfl
theorem key_inj {l m : List Pt} (hl : Oks l) (hm : Oks m) (h : keyB l = keyB m) : l = m := by
  have := key_order hl hm
  rw [h, cmpL_self] at this
  exact cmpK_eq hl hm this.symm
/-- Two lists: one begins with the other, or their keys part within both. -/
theorem key_parts : ∀ {l m : List Pt}, Oks l → Oks m → (∃ r, l = m ++ r) ∨ (∃ q r, m = l ++ q :: r) ∨ Lt0 (keyB l) (keyB m) ∨ Lt0 (keyB m) (keyB l)
  | l, [], _, _ => .inl ⟨l, rfl⟩
  | [], q :: m, _, _ => .inr (.inl ⟨q, m, rfl⟩)
  | p :: l, q :: m, hl, hm => by
    have hp := hl p (by simp)
    have hq := hm q (by simp)
    rw [keyB_cons, keyB_cons]
    rcases cmpP_in p q with h | h | h
    · exact .inr (.inr (.inl ((partB_lt hp hq h).append _ _)))
    · obtain rfl := cmpP_eq hp hq h
      rcases key_parts hl.tail hm.tail with ⟨r, e⟩ | ⟨a, r, e⟩ | h | h
      · exact .inl ⟨r, by rw [e]; rfl⟩
      · exact .inr (.inl ⟨a, r, by rw [e]; rfl⟩)
      · exact .inr (.inr (.inl (h.behind _)))
      · exact .inr (.inr (.inr (h.behind _)))
    · exact .inr (.inr (.inr ((partB_lt hq hp (by rw [cmpP_neg, h])).append _ _)))
/-- A key lies in the range of parts just if its parts begin with them. -/
theorem key_range {a m : List Pt} (ha : Oks a) (hm : Oks m) : (cmpL (keyB a) (keyB m) ≠ -1 ∧ cmpL (keyB a) (keyB m ++ [255]) = -1) ↔ ∃ r, a = m ++ r := by
  constructor
  · rintro ⟨h1, h2⟩
    rcases key_parts ha hm with h | ⟨q, r, e⟩ | h | h
    · exact h
    · exfalso
      apply h1
      have hr : Oks (q :: r) := fun p hp => hm p (by rw [e]; simp at hp ⊢; exact .inr hp)
      obtain ⟨c, t, e2, _⟩ := keyB_head hr (by simp)
      rw [e, keyB_append, e2]
      exact cmpL_pre _ _ _
    · exact absurd h.cmp h1
    · exfalso
      have h3 := (h.append [255] []).cmp
      rw [List.append_nil, cmpL_neg, h2] at h3
      omega
  · rintro ⟨r, rfl⟩
    have hr : Oks r := fun p hp => ha p (by simp [hp])
    rw [keyB_append]
    cases r with
    | nil => simp only [keyB_nil, List.append_nil]; rw [cmpL_self, cmpL_pre]; omega
    | cons q r =>
      obtain ⟨c, t, e2, h3, h4⟩ := keyB_head hr (by simp)
      rw [e2, cmpL_neg, cmpL_pre, cmpL_behind]
      refine ⟨by omega, ?_⟩
      unfold cmpL; rw [if_pos (by omega)]
/-- Whatever a key begins with that is a key. -/
theorem key_begins {l m : List Pt} (hl : Oks l) (hm : Oks m) {c : Int} {r : List Int} (h : keyB l = keyB m ++ c :: r) : ∃ q t, l = m ++ q :: t := by
  rcases key_parts hl hm with ⟨t, e⟩ | ⟨q, t, e⟩ | h1 | h1
  · cases t with
    | nil => rw [e] at h; simp at h
    | cons q t => exact ⟨q, t, e⟩
  · rw [e, keyB_append] at h
    have := congrArg List.length h
    simp at this
  · have h2 := h1.cmp
    rw [h, cmpL_neg, cmpL_pre] at h2
    simp at h2
  · have h2 := h1.append (c :: r) []
    rw [← h, List.append_nil] at h2
    have := h2.cmp
    rw [cmpL_self] at this; omega
/-- A number is ahead of each text. -/
theorem num_text (z : Int) (s : ByteArray) (h : I64 z) : Lt0 (numB z) (textB s) := .inl (by have := headN_in h; omega)
end Go.Proofs.Ytkhnhnaefmcngaa
