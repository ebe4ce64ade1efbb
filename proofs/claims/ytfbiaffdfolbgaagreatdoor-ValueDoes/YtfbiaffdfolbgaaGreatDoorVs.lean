/- Values' texts as bytes: digits, what TrimRight leaves, what Cut and ParseInt make of a value's text. -/
import Derived.Test.YtfbiaffdfolbgaaGreatDoorVr
namespace Go.Proofs.YtfbiaffdfolbgaaGreatDoor
set_option linter.unusedVariables false
/-- Numbers as bytes. -/
def u8s (l : List Int) : List UInt8 := l.map fun c => UInt8.ofNat c.toNat
def bOf (l : List Int) : ByteArray := ⟨(u8s l).toArray⟩
theorem u8s_append (x y : List Int) : u8s (x ++ y) = u8s x ++ u8s y := by simp [u8s]
theorem bOf_append (x y : List Int) : bOf (x ++ y) = bOf x ++ bOf y := by
  unfold bOf
  rw [u8s_append]
  apply ByteArray.ext
  simp
theorem bOf_size (x : List Int) : (bOf x).size = x.length := by
  show (u8s x).toArray.size = _
  simp [u8s]
/-- Bytes, as numbers. -/
def Byts (l : List Int) : Prop := ∀ c ∈ l, 0 ≤ c ∧ c ≤ 255
theorem Byts.append {x y : List Int} (h : Byts x) (g : Byts y) : Byts (x ++ y) := fun c hc => by
  rcases List.mem_append.1 hc with h1 | h1
  · exact h c h1
  · exact g c h1
theorem Digs.byts {x : List Int} (h : Digs x) : Byts x := fun c hc => by have := h c hc; omega
theorem u8_inj {a b : Int} (ha : 0 ≤ a ∧ a ≤ 255) (hb : 0 ≤ b ∧ b ≤ 255) (h : UInt8.ofNat a.toNat = UInt8.ofNat b.toNat) : a = b := by
  have := congrArg UInt8.toNat h
  rw [UInt8.toNat_ofNat', UInt8.toNat_ofNat'] at this
  omega
theorem u8s_inj : ∀ {x y : List Int}, Byts x → Byts y → u8s x = u8s y → x = y
  | [], [], _, _, _ => rfl
  | [], _ :: _, _, _, h => by simp [u8s] at h
  | _ :: _, [], _, _, h => by simp [u8s] at h
  | a :: x, b :: y, hx, hy, h => by
    simp only [u8s, List.map_cons, List.cons.injEq] at h
    rw [u8_inj (hx a (by simp)) (hy b (by simp)) h.1, u8s_inj (fun c hc => hx c (by simp [hc])) (fun c hc => hy c (by simp [hc])) h.2]
theorem bOf_inj {x y : List Int} (hx : Byts x) (hy : Byts y) (h : bOf x = bOf y) : x = y := by
  refine u8s_inj hx hy ?_
  have := congrArg (fun b : ByteArray => b.data.toList) h
  simpa [bOf] using this
theorem dec_u8s (u : Nat) : Lib.decDigits u = u8s (dec u) := by
  induction u using Nat.strongRecOn with
  | _ u ih =>
    by_cases h : u < 10
    · rw [Lib.decDigits, dif_pos h, dec_lt h]
      have e : (48 + (u : Int)).toNat = 48 + u := by omega
      simp only [u8s, List.map_cons, List.map_nil, e]
    · rw [Lib.decDigits, dif_neg h, dec_ge (by omega), u8s_append, ih (u / 10) (by omega)]
      have e : (48 + ((u % 10 : Nat) : Int)).toNat = 48 + u % 10 := by omega
      simp only [u8s, List.map_cons, List.map_nil, e]
theorem digS_dec (u : Nat) : digS u = bOf (dec u) := by rw [digS, bOf, dec_u8s]
theorem tail_byts {r : Nat} (h : r < 1000) : Byts (tail r) := by
  unfold tail
  split
  · intro c hc; cases hc
  · intro c hc
    rcases List.mem_cons.1 hc with rfl | hc
    · omega
    · have := frac_digs h c hc; omega
theorem txtN_byts (n : Nat) : Byts (txtN n) := (dec_digs _).byts.append (tail_byts (Nat.mod_lt _ (by omega)))
theorem txt_byts (v : Vl) : Byts (txt v) := by
  unfold txt
  split
  · split
    · intro c hc
      rcases List.mem_cons.1 hc with rfl | hc
      · omega
      · exact txtN_byts _ c hc
    · exact txtN_byts _
  · split
    · intro c hc; simp at hc; omega
    · split
      · intro c hc; simp at hc; omega
      · split <;> (intro c hc; simp at hc; omega)
/-- A value's text. -/
def txtS (v : Vl) : ByteArray := bOf (txt v)
theorem txtS_inj {u v : Vl} (hu : IsV u) (hv : IsV v) (h : txtS u = txtS v) : u = v := txt_inj hu hv (bOf_inj (txt_byts u) (txt_byts v) h)
theorem u8s_digs3 (r : Nat) : u8s (digs3 r) = [UInt8.ofNat (48 + r / 100), UInt8.ofNat (48 + r / 10 % 10), UInt8.ofNat (48 + r % 10)] := by
  simp only [u8s, digs3, List.map_cons, List.map_nil]
  have e : ∀ k : Nat, (48 + (k : Int)).toNat = 48 + k := fun k => by omega
  rw [e, e, e]
theorem dig_eq {k : Nat} (h : k < 10) : (UInt8.ofNat (48 + k) == 48) = decide (k = 0) := by
  have : k = 0 ∨ k = 1 ∨ k = 2 ∨ k = 3 ∨ k = 4 ∨ k = 5 ∨ k = 6 ∨ k = 7 ∨ k = 8 ∨ k = 9 := by omega
  rcases this with rfl | rfl | rfl | rfl | rfl | rfl | rfl | rfl | rfl | rfl <;> decide
theorem trim3 (a b c : UInt8) (h : (c == 48) = false) : Lib.trimRightB [a, b, c] 48 = [a, b, c] := by simp [Lib.trimRightB, h]
theorem trim2 (a b : UInt8) (h : (b == 48) = false) : Lib.trimRightB [a, b, 48] 48 = [a, b] := by simp [Lib.trimRightB, List.dropWhile, h]
theorem trim1 (a : UInt8) (h : (a == 48) = false) : Lib.trimRightB [a, 48, 48] 48 = [a] := by simp [Lib.trimRightB, List.dropWhile, h]
/-- What TrimRight leaves of three digits. -/
theorem trim_frac {r : Nat} (h0 : r ≠ 0) (h : r < 1000) : Lib.trimRightB (u8s (digs3 r)) 48 = u8s (frac r) := by
  rw [u8s_digs3]
  have e : ∀ k : Nat, (48 + (k : Int)).toNat = 48 + k := fun k => by omega
  by_cases h1 : r % 100 = 0
  · have h2 : r % 10 = 0 := by omega
    have h3 : r / 10 % 10 = 0 := by omega
    have h4 : r / 100 ≠ 0 := by omega
    have d3 := dig_eq (k := r / 100) (by omega)
    rw [decide_eq_false h4] at d3
    rw [h2, h3, frac, if_pos h1]
    simp only [u8s, List.map_cons, List.map_nil, e]
    exact trim1 _ d3
  · by_cases h2 : r % 10 = 0
    · have h3 : r / 10 % 10 ≠ 0 := by omega
      have d2 := dig_eq (k := r / 10 % 10) (by omega)
      rw [decide_eq_false h3] at d2
      rw [h2, frac, if_neg h1, if_pos h2]
      simp only [u8s, List.map_cons, List.map_nil, e]
      exact trim2 _ _ d2
    · have d1 := dig_eq (k := r % 10) (by omega)
      rw [decide_eq_false h2] at d1
      rw [frac, if_neg h1, if_neg h2]
      simp only [u8s, List.map_cons, List.map_nil, e]
      exact trim3 _ _ _ d1
/-! ### Cut and ParseInt at a value's text -/
/-- No point among them. -/
def NoPt (l : List UInt8) : Prop := ∀ c ∈ l, c ≠ 46
theorem index_no : ∀ (l : List UInt8), NoPt l → Lib.index l [46] = -1
  | [], _ => rfl
  | b :: l, h => by
    have h1 : (46 == b) = false := by simpa using fun e => h b (by simp) e.symm
    have h2 := index_no l (fun c hc => h c (by simp [hc]))
    simp [Lib.index, List.isPrefixOf, h1, h2]
theorem index_at : ∀ (x y : List UInt8), NoPt x → Lib.index (x ++ 46 :: y) [46] = x.length
  | [], y, _ => by simp [Lib.index, List.isPrefixOf]
  | b :: l, y, h => by
    have h1 : (46 == b) = false := by simpa using fun e => h b (by simp) e.symm
    have h2 := index_at l y (fun c hc => h c (by simp [hc]))
    have h3 : ¬ ((l.length : Int) = -1) := by omega
    simp [Lib.index, List.isPrefixOf, h1, h2, h3]
theorem cut_no (l : List UInt8) (h : NoPt l) : Lib.cut l [46] = (l, [], false) := by
  simp [Lib.cut, index_no l h]
theorem cut_at (x y : List UInt8) (h : NoPt x) : Lib.cut (x ++ 46 :: y) [46] = (x, y, true) := by
  have : ((x ++ 46 :: y).drop (x.length + 1)) = y := by
    have e : x ++ 46 :: y = (x ++ [46]) ++ y := by simp
    rw [e]
    exact List.drop_left' (by simp)
  simp [Lib.cut, index_at x y h, this]
theorem parse_digs (M : Nat) (hM : M = 18446744073709551615) : ∀ (l : List Int) (acc : Nat), Digs l → undF acc l ≤ 1000000000000000 → Lib.parseUintM M acc (u8s l) = .ok (undF acc l).toNat
  | [], acc, _, _ => by simp [Lib.parseUintM, u8s, undF]
  | c :: l, acc, h, hb => by
    have hc := h c (by simp)
    have hu : undF acc (c :: l) = undF (10 * acc + (c - 48)) l := rfl
    have hn : (10 * (acc : Int) + (c - 48)) = ((acc * 10 + (c.toNat - 48) : Nat) : Int) := by omega
    rw [hu, hn] at hb ⊢
    have hl : Digs l := fun e he => h e (by simp [he])
    have key : ∀ (x : List Int) (a : Int), Digs x → 0 ≤ a → a ≤ undF a x := by
      intro x
      induction x with
      | nil => intro a _ _; exact Int.le_refl _
      | cons d l ih2 =>
        intro a hd ha
        have h1 := hd d (by simp)
        have := ih2 (10 * a + (d - 48)) (fun e he => hd e (by simp [he])) (by omega)
        have h2 : undF a (d :: l) = undF (10 * a + (d - 48)) l := rfl
        omega
    have h3 := key l ((acc * 10 + (c.toNat - 48) : Nat) : Int) hl (by omega)
    have ih := parse_digs M hM l (acc * 10 + (c.toNat - 48)) hl hb
    have hcn : (UInt8.ofNat c.toNat).toNat = c.toNat := by rw [UInt8.toNat_ofNat']; omega
    have e : u8s (c :: l) = UInt8.ofNat c.toNat :: u8s l := rfl
    rw [e, Lib.parseUintM, hcn, if_pos (by omega), if_neg (by omega), if_neg (by omega)]
    exact ih
/-- What thousandths hands to ParseInt. -/
def thouX (s : List UInt8) : List UInt8 := (Lib.cut s [46]).1 ++ ((Lib.cut s [46]).2.1 ++ [48, 48, 48]).take 3
/-- What thousandths tells. -/
def thou (s : List UInt8) : Int := match Lib.parseIntB 64 (thouX s) with
  | .ok v => v
  | _ => 0
theorem digs_noPt {l : List Int} (h : Digs l) : NoPt (u8s l) := fun c hc e => by
  obtain ⟨d, hd, rfl⟩ := List.mem_map.1 hc
  have := h d hd
  have h2 := congrArg UInt8.toNat e
  rw [UInt8.toNat_ofNat'] at h2
  have h3 : (46 : UInt8).toNat = 46 := rfl
  omega
theorem und_digs3 (a : Int) {r : Nat} (h : r < 1000) : undF a (digs3 r) = a * 1000 + r := by
  simp only [undF, digs3, List.foldl_cons, List.foldl_nil]; omega
theorem digs3_digs {r : Nat} (h : r < 1000) : Digs (digs3 r) := by
  intro c hc
  simp [digs3] at hc
  omega
theorem frac_pad {r : Nat} (h : r < 1000) : (u8s (frac r) ++ [48, 48, 48]).take 3 = u8s (digs3 r) := by
  rw [u8s_digs3]
  have e : ∀ k : Nat, (48 + (k : Int)).toNat = 48 + k := fun k => by omega
  unfold frac
  split
  · have h2 : r % 10 = 0 := by omega
    have h3 : r / 10 % 10 = 0 := by omega
    simp only [u8s, List.map_cons, List.map_nil, e, h2, h3]; rfl
  · split
    · next h2 => simp only [u8s, List.map_cons, List.map_nil, e, h2]; rfl
    · simp only [u8s, List.map_cons, List.map_nil, e]; rfl
/-- The digits, without a point. -/
theorem thouX_N (n : Nat) : thouX (u8s (txtN n)) = u8s (dec (n / 1000) ++ digs3 (n % 1000)) := by
  have hd := digs_noPt (dec_digs (n / 1000))
  by_cases h : n % 1000 = 0
  · rw [txtN, tail, if_pos h, List.append_nil, thouX, cut_no _ hd, u8s_append, h]; rfl
  · rw [txtN, tail, if_neg h, u8s_append]
    have e : u8s (46 :: frac (n % 1000)) = 46 :: u8s (frac (n % 1000)) := rfl
    rw [e, thouX, cut_at _ _ hd, u8s_append]
    simp only
    rw [frac_pad (Nat.mod_lt _ (by omega))]
theorem thouX_neg (l : List UInt8) : thouX (45 :: l) = 45 :: thouX l := by
  have hc : Lib.cut (45 :: l) [46] = (45 :: (Lib.cut l [46]).1, (Lib.cut l [46]).2) := by
    have hi : Lib.index (45 :: l) [46] = if Lib.index l [46] = -1 then -1 else Lib.index l [46] + 1 := by
      simp [Lib.index, List.isPrefixOf]
    unfold Lib.cut
    rw [hi]
    by_cases h1 : Lib.index l [46] = -1
    · rw [h1]; simp
    · have h2 : 0 ≤ Lib.index l [46] := by
        by_cases h : 0 ≤ Lib.index l [46]
        · exact h
        · exfalso
          have key : ∀ m : List UInt8, -1 ≤ Lib.index m [46] := by
            intro m
            induction m with
            | nil => simp [Lib.index]
            | cons b m ih =>
              simp only [Lib.index]
              split
              · omega
              · split
                · omega
                · omega
          have := key l
          omega
      have h3 : (Lib.index l [46] + 1).toNat = (Lib.index l [46]).toNat + 1 := by omega
      rw [if_neg h1, if_pos (by omega), if_pos h2, h3]
      simp
  simp [thouX, hc]
theorem thou_N (n : Nat) (hn : n ≤ 1000000000000000) : Lib.parseUintB 64 (thouX (u8s (txtN n))) = .ok n := by
  rw [thouX_N]
  have hd : Digs (dec (n / 1000) ++ digs3 (n % 1000)) := (dec_digs _).append (digs3_digs (Nat.mod_lt _ (by omega)))
  have hv : undF ((0 : Nat) : Int) (dec (n / 1000) ++ digs3 (n % 1000)) = n := by
    rw [undF_append, show (((0 : Nat) : Int)) = 0 from rfl, und_dec, und_digs3 _ (Nat.mod_lt _ (by omega))]; omega
  have hne : u8s (dec (n / 1000) ++ digs3 (n % 1000)) ≠ [] := by
    obtain ⟨c, r, e, _⟩ := dec_head (n / 1000)
    rw [e]; simp [u8s]
  rw [Lib.parseUintB, if_neg hne, parse_digs _ (by decide) _ _ hd (by rw [hv]; omega), hv]
  simp
theorem thou_txt {n : Int} (h1 : -1000000000000000 ≤ n) (h2 : n ≤ 1000000000000000) : thou (u8s (txt ⟨1, n⟩)) = n := by
  by_cases hn : n < 0
  · have e : u8s (txt ⟨1, n⟩) = 45 :: u8s (txtN n.natAbs) := by simp [txt, hn, u8s]
    have h := thou_N n.natAbs (by omega)
    unfold thou
    rw [e, thouX_neg, Lib.parseIntB]
    simp only [show ((45 : UInt8).toNat = 43 ∨ (45 : UInt8).toNat = 45) from .inr rfl, if_true, h]
    have e2 : ¬ (2 ^ (64 - 1) < n.natAbs) := by
      have : (2 : Nat) ^ (64 - 1) = 9223372036854775808 := rfl
      omega
    have e3 : (45 : UInt8).toNat = 45 := rfl
    simp only [e3, not_true_eq_false, false_and, if_false, true_and, e2, if_true]
    omega
  · have e : u8s (txt ⟨1, n⟩) = u8s (txtN n.natAbs) := by simp [txt, hn]
    have h := thou_N n.natAbs (by omega)
    unfold thou
    rw [e]
    have hx : ∃ c r, thouX (u8s (txtN n.natAbs)) = c :: r ∧ 48 ≤ c.toNat ∧ c.toNat ≤ 57 := by
      rw [thouX_N]
      obtain ⟨c, r, e, hc⟩ := dec_head (n.natAbs / 1000)
      refine ⟨UInt8.ofNat c.toNat, u8s (r ++ digs3 (n.natAbs % 1000)), by rw [e]; rfl, ?_, ?_⟩ <;> rw [UInt8.toNat_ofNat'] <;> omega
    obtain ⟨c, r, hcr, hc1, hc2⟩ := hx
    rw [hcr] at h ⊢
    have g1 : ¬ (c.toNat = 43 ∨ c.toNat = 45) := by omega
    have g2 : ¬ c.toNat = 45 := by omega
    have e2 : ¬ (2 ^ (64 - 1) ≤ n.natAbs) := by
      have : (2 : Nat) ^ (64 - 1) = 9223372036854775808 := rfl
      omega
    rw [Lib.parseIntB]
    rw [if_neg g1, h]
    simp only [g2, not_false_eq_true, true_and, e2, false_and, if_false]
    omega
end Go.Proofs.YtfbiaffdfolbgaaGreatDoor
