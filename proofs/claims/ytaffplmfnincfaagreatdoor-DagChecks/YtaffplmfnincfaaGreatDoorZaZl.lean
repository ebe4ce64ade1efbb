/- Za; Zb; Zc; Zd; Ze; Zj; Zk; Zl. -/
import Derived.Test.YtaffplmfnincfaaGreatDoorPmPw
import Derived.Test.YtaffplmfnincfaaGreatDoorRjRp
/- DagChecks: the document's parser: signs, words and numbers at a place: mathematics. -/
namespace Go.Proofs.YtaffplmfnincfaaGreatDoor
set_option linter.unusedVariables false
open Go.RowKit
/-- The sign that a text begins with, as long as it can be. -/
def sgHd (s : ByteArray) : ByteArray := match signL.find? (fun x => preS s x.1) with
  | some x => x.1
  | none => ⟨#[]⟩
/-- The sign at a place. -/
def sgT (s : ByteArray) (j : Nat) : ByteArray := sgHd (s.extract j s.size)
theorem byteAt_list (s : ByteArray) (k : Nat) : byteAt s k = ((s.data.toList[k]?).map fun b => (b.toNat : Int)).getD 0 := by
  unfold byteAt numsS
  rw [List.getD_eq_getElem?_getD, List.getElem?_map]
theorem byteAt_ext (s : ByteArray) (i k : Nat) : byteAt (s.extract i s.size) k = byteAt s (i + k) := by
  rw [byteAt_list, byteAt_list, ext_list, List.getElem?_drop]
theorem pre_byte {s p : ByteArray} (h : preS s p = true) (k : Nat) (hk : k < p.size) : byteAt s k = byteAt p k := by
  unfold preS at h
  obtain ⟨r, hr⟩ := List.isPrefixOf_iff_prefix.1 h
  rw [byteAt_list, byteAt_list, ← hr, List.getElem?_append_left (by rw [Array.length_toList]; exact hk)]
theorem sign_first : ∀ x ∈ signL, 0 < x.1.size ∧ byteAt x.1 0 ≠ 36 ∧ isDig (byteAt x.1 0) = false ∧ isWrd (byteAt x.1 0) = false := by decide +kernel
theorem sg_some {s : ByteArray} (h : sgHd s ≠ ⟨#[]⟩) : ∃ x ∈ signL, sgHd s = x.1 ∧ preS s x.1 = true ∧ signL.find? (fun x => preS s x.1) = some x := by
  unfold sgHd at h ⊢
  cases e : signL.find? (fun x => preS s x.1) with
  | none => rw [e] at h; exact absurd rfl h
  | some x => exact ⟨x, List.mem_of_find?_eq_some e, rfl, (by have := List.find?_some e; exact this), rfl⟩
theorem sg_tok {s : ByteArray} (h : sgHd s ≠ ⟨#[]⟩) : firstTok parC s = ⟨2, (sgHd s).size, sgHd s, zer⟩ := by
  obtain ⟨x, hx, he, hp, hf⟩ := sg_some h
  obtain ⟨h0, h1, h2, h3⟩ := sign_first x hx
  have hb := pre_byte hp 0 h0
  have hl := pre_len hp
  unfold firstTok
  rw [if_neg (by omega), hb, if_neg h1, if_neg (by rw [h2]; decide), if_neg (by rw [h3]; decide)]
  unfold firstSign
  rw [hf, he]
/-- A text that is no sign. -/
def NoSg (t : ByteArray) : Prop := ∀ x ∈ signL, t ≠ x.1
theorem nosg_nil : NoSg ⟨#[]⟩ := fun x hx h => by
  have := (sign_first x hx).1
  rw [← h] at this
  exact absurd this (by decide)
theorem nosg_ref {t : ByteArray} (h : refB t = true) : NoSg t := fun x hx e => by
  have h3 := (sign_first x hx).2.2.2
  rw [← e] at h3
  unfold refB at h
  have h4 : isCap (byteAt t 0) = true := by
    simp only [Bool.and_eq_true] at h
    exact h.1.2
  unfold isWrd at h3
  rw [h4] at h3
  simp at h3
theorem nosg_word (t : ByteArray) : NoSg (ofWord t).text := by
  unfold ofWord
  split
  · exact nosg_nil
  split
  · exact nosg_nil
  split
  · exact nosg_nil
  split
  · rename_i h
    have : ∀ u ∈ [(⟨#[97, 98, 115]⟩ : ByteArray), ⟨#[102, 108, 111, 111, 114]⟩, ⟨#[105, 115, 95, 110, 117, 108, 108]⟩, ⟨#[105, 115, 95, 110, 97, 110]⟩, ⟨#[105, 115, 95, 105, 110, 102]⟩, ⟨#[105, 115, 95, 110, 117, 109, 98, 101, 114]⟩], ∀ x ∈ signL, u ≠ x.1 := by decide +kernel
    refine this t ?_
    simp only [List.mem_cons, List.not_mem_nil, or_false]
    exact h
  · exact nosg_nil
theorem sg_none {s : ByteArray} (h : sgHd s = ⟨#[]⟩) : NoSg (firstTok parC s).text := by
  unfold firstTok
  split
  · exact nosg_nil
  split
  · unfold firstRef
    simp only
    split
    · rename_i h2; exact nosg_ref h2
    · exact nosg_nil
  split
  · unfold firstNum
    split
    · exact nosg_nil
    · exact nosg_nil
  split
  · exact nosg_word _
  · unfold firstSign
    unfold sgHd at h
    cases e : signL.find? (fun x => preS s x.1) with
    | none => exact nosg_nil
    | some x =>
      rw [e] at h
      have h1 : x.1 = ⟨#[]⟩ := h
      have := (sign_first x (List.mem_of_find?_eq_some e)).1
      rw [h1] at this
      exact absurd this (by decide)
theorem nosg_lev {t : ByteArray} (h : NoSg t) : levOf t = 6 := by
  unfold levOf
  have : signL.find? (fun x => decide (t = x.1)) = none := List.find?_eq_none.2 fun x hx => by
    simpa using h x hx
  rw [this]
/-- What stands at a place where one of the signs of a level stands, and where none does. -/
theorem tk_yes {s : ByteArray} {j : Nat} {u : ByteArray} (hu : u ≠ ⟨#[]⟩) (h : sgT s j = u) : tokAt parC s j = ⟨2, u.size, u, zer⟩ ∧ nxt parC s j = skipB s (j + u.size) := by
  have h1 : tokAt parC s j = ⟨2, u.size, u, zer⟩ := by
    unfold tokAt
    rw [sg_tok (by rw [show sgHd (s.extract j s.size) = u from h]; exact hu), show sgHd (s.extract j s.size) = u from h]
  refine ⟨h1, ?_⟩
  unfold nxt
  rw [h1]
theorem tk_no {s : ByteArray} {j : Nat} {L : List ByteArray} {l : Int} (hl : l ≠ 6) (hL : ∀ x ∈ signL, levOf x.1 = l → ∃ u ∈ L, u = x.1) (h : sgT s j ∉ L) : levOf (tokAt parC s j).text ≠ l := by
  by_cases e : sgT s j = ⟨#[]⟩
  · unfold tokAt
    rw [nosg_lev (sg_none e)]
    exact fun h => hl h.symm
  · obtain ⟨x, hx, he, _, _⟩ := sg_some e
    rw [(tk_yes e rfl).1]
    intro h2
    exact h (by show sgHd (s.extract j s.size) ∈ L; rw [he]; obtain ⟨u, hu, hux⟩ := hL x hx (by rw [← he]; exact h2); rw [← hux]; exact hu)
theorem tk_not {s : ByteArray} {j : Nat} {u : ByteArray} (hu : ∃ x ∈ signL, x.1 = u) (h : sgT s j ≠ u) : (tokAt parC s j).text ≠ u := by
  by_cases e : sgT s j = ⟨#[]⟩
  · obtain ⟨x, hx, rfl⟩ := hu
    exact sg_none e x hx
  · rw [(tk_yes e rfl).1]
    exact h
/-- Blanks are passed once. -/
theorem tw_dw {α : Type} (p : α → Bool) : ∀ l : List α, (l.drop (l.takeWhile p).length).takeWhile p = []
  | [] => rfl
  | a :: l => by
    by_cases h : p a = true
    · rw [List.takeWhile_cons, if_pos h, List.length_cons, List.drop_succ_cons]; exact tw_dw p l
    · rw [List.takeWhile_cons, if_neg h, List.length_nil, List.drop_zero, List.takeWhile_cons, if_neg h]
theorem numsS_ext (s : ByteArray) (j : Nat) : numsS (s.extract j s.size) = (numsS s).drop j := by
  unfold numsS
  rw [ext_list, List.map_drop]
theorem skip_idem (s : ByteArray) (i : Nat) : skipB s (skipB s i) = skipB s i := by
  have h : runN (fun c => decide (c = 32)) (s.extract (skipB s i) s.size) = 0 := by
    unfold runN
    rw [numsS_ext]
    unfold skipB runN
    rw [numsS_ext, ← List.drop_drop, tw_dw]
    rfl
  have h2 : ∀ q, runN (fun c => decide (c = 32)) (s.extract q s.size) = 0 → skipB s q = q := fun q hq => by unfold skipB; rw [hq]; rfl
  exact h2 _ h
/-- Where the blanks end. -/
theorem skip_is {s : ByteArray} {i j : Nat} (hij : i ≤ j) (hj : j ≤ s.size) (h1 : ∀ k, i ≤ k → k < j → byteAt s k = 32) (h2 : j < s.size → byteAt s j ≠ 32) : j = skipB s i := by
  have h : runN (fun c => decide (c = 32)) (s.extract i s.size) = j - i := runN_is _ _ _ (by rw [ext_size _ _ _ (Nat.le_refl _)]; omega) (fun k hk => by
    rw [byteAt_ext]; exact decide_eq_true (h1 (i + k) (by omega) (by omega))) (fun hk => by
    rw [ext_size _ _ _ (Nat.le_refl _)] at hk
    rw [byteAt_ext, show i + (j - i) = j by omega]
    exact decide_eq_false (h2 (by omega)))
  unfold skipB
  rw [h]
  omega
/-- How far a run goes from a place. -/
theorem run_is {p : Int → Bool} {s : ByteArray} {i j : Nat} (hij : i ≤ j) (hj : j ≤ s.size) (h1 : ∀ k, i ≤ k → k < j → p (byteAt s k) = true) (h2 : j < s.size → p (byteAt s j) = false) : runN p (s.extract i s.size) = j - i :=
  runN_is _ _ _ (by rw [ext_size _ _ _ (Nat.le_refl _)]; omega) (fun k hk => by
    rw [byteAt_ext]; exact h1 (i + k) (by omega) (by omega)) (fun hk => by
    rw [ext_size _ _ _ (Nat.le_refl _)] at hk
    rw [byteAt_ext, show i + (j - i) = j by omega]
    exact h2 (by omega))
theorem ext_take (s : ByteArray) (a b : Nat) : (s.extract a b).data.toList = (s.data.toList.drop a).take (b - a) := by
  rw [ByteArray.data_extract, Array.toList_extract, List.extract_eq_take_drop]
theorem ext_pre (s : ByteArray) (i n : Nat) (h : i + n ≤ s.size) : (s.extract i s.size).extract 0 n = s.extract i (i + n) := ba_ext (by
  rw [ext_take, ext_list, ext_take, List.drop_zero, Nat.sub_zero, Nat.add_sub_cancel_left])
theorem pre_one (s : ByteArray) (c : UInt8) (h : 0 < s.size) : preS s ⟨#[c]⟩ = decide (byteAt s 0 = (c.toNat : Int)) := by
  have hl : 0 < s.data.toList.length := by rw [Array.length_toList]; exact h
  rw [byteAt_list]
  unfold preS
  generalize s.data.toList = l at *
  match l, hl with
  | a :: r, _ =>
    show (c == a && true) = _
    simp only [List.getElem?_cons_zero, Option.map_some, Option.getD_some, Bool.and_true]
    by_cases e : c = a
    · subst e; simp
    · have : ¬ ((a.toNat : Nat) : Int) = ((c.toNat : Nat) : Int) := fun q => e (UInt8.toNat_inj.1 (by omega))
      simp [e, this]
/-- Where a number ends. -/
theorem num_none {s : ByteArray} {i K : Nat} (hi : i ≤ K) (hK : K ≤ s.size) (h1 : ∀ k, i ≤ k → k < K → isDig (byteAt s k) = true) (h2 : K < s.size → isDig (byteAt s K) = false) (h3 : ¬ (K + 1 < s.size ∧ byteAt s K = 46 ∧ isDig (byteAt s (K + 1)) = true)) : numSize (s.extract i s.size) = K - i := by
  have hr := run_is (p := isDig) hi hK h1 h2
  unfold numSize
  simp only
  rw [hr, ext_ext, show i + (K - i) = K by omega]
  by_cases hk : K < s.size
  · rw [pre_one _ _ (by rw [ext_size _ _ _ (Nat.le_refl _)]; omega), byteAt_ext]
    by_cases hp : byteAt s K = 46
    · rw [if_pos (by simpa using hp), ext_ext]
      have : runN isDig (s.extract (K + 1) s.size) = 0 := by
        have := run_is (p := isDig) (s := s) (i := K + 1) (j := K + 1) (Nat.le_refl _) (by omega) (fun k a b => by omega) (fun q => by
          cases e : isDig (byteAt s (K + 1)) with
          | false => rfl
          | true => exact absurd ⟨q, hp, e⟩ h3)
        rw [this]; omega
      rw [this, if_neg (by decide)]
    · rw [if_neg (by simpa using hp)]
  · have : preS (s.extract K s.size) ⟨#[46]⟩ = false := by
      cases e : preS (s.extract K s.size) ⟨#[46]⟩ with
      | false => rfl
      | true =>
        have := pre_len e
        rw [ext_size _ _ _ (Nat.le_refl _)] at this
        have h9 : (⟨#[46]⟩ : ByteArray).size = 1 := rfl
        omega
    rw [this, if_neg (by decide)]
theorem num_some {s : ByteArray} {i K L : Nat} (hi : i ≤ K) (h1 : ∀ k, i ≤ k → k < K → isDig (byteAt s k) = true) (h2 : isDig (byteAt s K) = false) (hp : byteAt s K = 46) (hL1 : K + 1 < L) (hL : L ≤ s.size) (h3 : ∀ k, K + 1 ≤ k → k < L → isDig (byteAt s k) = true) (h4 : L < s.size → isDig (byteAt s L) = false) : numSize (s.extract i s.size) = L - i := by
  have hr := run_is (p := isDig) hi (by omega) h1 (fun _ => h2)
  have hr2 := run_is (p := isDig) (s := s) (i := K + 1) (j := L) (by omega) hL h3 h4
  unfold numSize
  simp only
  rw [hr, ext_ext, show i + (K - i) = K by omega, pre_one _ _ (by rw [ext_size _ _ _ (Nat.le_refl _)]; omega), byteAt_ext, if_pos (by simpa using hp), ext_ext, hr2, if_pos (by omega)]
  omega
end Go.Proofs.YtaffplmfnincfaaGreatDoor
/- DagChecks: the document's parser: its small functions. -/
namespace Go.Proofs.YtaffplmfnincfaaGreatDoor
set_option linter.unusedVariables false
open Go.RowKit
/-- Block p is a parser of s at the place i, with the error e at t. -/
def RpT (w : World) (p : Nat) (s : ByteArray) (i : Nat) (e t : Int) : Prop := w.heap[p]? = some (.cells #[.string s, .int .i64 (i : Int), .int .i64 e, .int .i64 t] 91 (0, 0))
section
variable {w w' : World} {p i : Nat} {s : ByteArray} {e t : Int}
theorem RpT.cells (h : RpT w p s i e t) : w.cell? ⟨p, 0, none⟩ = some (.string s) ∧ w.cell? ⟨p, 1, none⟩ = some (.int .i64 (i : Int)) ∧ w.cell? ⟨p, 2, none⟩ = some (.int .i64 e) ∧ w.cell? ⟨p, 3, none⟩ = some (.int .i64 t) := by
  unfold RpT at h
  simp [World.cell?, h]
theorem RpT.frozen (h : RpT w p s i e t) (j : Nat) : w.frozen? ⟨p, j, none⟩ = false := by
  unfold RpT at h
  simp [World.frozen?, h]
theorem RpT.lt (h : RpT w p s i e t) : p < w.heap.size := (Array.getElem?_eq_some_iff.1 h).1
theorem RpT.grow (h : RpT w p s i e t) (hb : Below w.heap.size w w') : RpT w' p s i e t := (hb.block p h.lt).trans h
theorem RpT.set1 (h : RpT w p s i e t) (j : Nat) : RpT (w.setCell ⟨p, 1, none⟩ (.int .i64 (j : Int))) p s j e t := by
  have := block_setCell (i := 1) (u := .int .i64 (j : Int)) h
  unfold RpT
  rw [this]
  simp
theorem RpT.set2 (h : RpT w p s i e t) (j : Int) : RpT (w.setCell ⟨p, 2, none⟩ (.int .i64 j)) p s i j t := by
  have := block_setCell (i := 2) (u := .int .i64 j) h
  unfold RpT
  rw [this]
  simp
theorem RpT.set3 (h : RpT w p s i e t) (j : Int) : RpT (w.setCell ⟨p, 3, none⟩ (.int .i64 j)) p s i e j := by
  have := block_setCell (i := 3) (u := .int .i64 j) h
  unfold RpT
  rw [this]
  simp
theorem RpT.hi5 {x : Nat} (h : RpT w p s i e t) (hne : p ≠ x) (a b c d f : Value) : RpT (set5 w x a b c d f) p s i e t := (set5_block hne).trans h
end
set_option maxRecDepth 100000 in
set_option maxHeartbeats 2000000 in
/-- Parser.fail. -/
theorem fail_any (w : World) (p : Nat) (s : ByteArray) (i : Nat) (e t er at' : Int) (h : RpT w p s i e t) : Calls Tryz.prog 52 #[.pointer (some ⟨p, 0, none⟩), .int .i64 er, .int .i64 at'] w fun r w' => r = .returned (.tuple #[]) ∧ Hid (Fp p w w' ∧ ∃ e' t', RpT w' p s i e' t' ∧ (e ≠ 0 → e' = e) ∧ (e = 0 → e' = er)) := by
  obtain ⟨c0, c1, c2, c3⟩ := h.cells
  have f := h.frozen
  have f2 := f 2
  have f3 := f 3
  cases he : (e == 0) with
  | true =>
    go_enter Tryz.func52, Tryz.ntmps52
    go_wp2
    go_end0
    have e0 : e = 0 := by simpa using he
    exact ⟨rfl, (((Fp.refl p w).set 2 _).set 3 _), _, _, (h.set2 er).set3 at', fun h => absurd e0 h, fun _ => rfl⟩
  | false =>
    go_enter Tryz.func52, Tryz.ntmps52
    go_wp2
    go_end0
    have e0 : e ≠ 0 := by simpa using he
    exact ⟨rfl, Fp.refl p w, _, _, h, fun _ => rfl, fun h => absurd h e0⟩
/-- The place that a parser tells. -/
def plcOf (w : World) (p : Nat) : Nat := match w.cell? ⟨p, 1, none⟩ with | some v => (intOf v).toNat | none => 0
theorem RpT.plc {w : World} {p i : Nat} {s : ByteArray} {e t : Int} (h : RpT w p s i e t) : plcOf w p = i := by
  unfold plcOf
  rw [h.cells.2.1]
  simp [intOf]
set_option maxRecDepth 100000 in
set_option maxHeartbeats 2000000 in
/-- Parser.blanks. -/
theorem blanks_any (w : World) (p : Nat) (s : ByteArray) (i : Nat) (e t : Int) (h : RpT w p s i e t) (hi : i ≤ s.size) (hs : s.size ≤ 1000000) : Calls Tryz.prog 51 #[.pointer (some ⟨p, 0, none⟩)] w fun r w' => r = .returned (.tuple #[]) ∧ ∃ j : Nat, i ≤ j ∧ j ≤ s.size ∧ Hid (RpT w' p s j e t) ∧ Hid (Fp p w w') ∧ Hid (j = skipB s i) := by
  go_enter Tryz.func51, Tryz.ntmps51
  go_wp2
  go_loopw [] (fun wr => ∃ j : Nat, i ≤ j ∧ j ≤ s.size ∧ Hid (RpT wr p s j e t) ∧ Hid (Fp p w wr) ∧ Hid (∀ k, i ≤ k → k < j → byteAt s k = 32)) (fun wr => s.size - plcOf wr p)
  case atStart => exact ⟨i, Nat.le_refl _, hi, h, Fp.refl _ _, fun k a b => by omega⟩
  case round =>
    obtain ⟨j, hij, hj, hp, hf, hbk⟩ := hrel
    obtain ⟨c0, c1, c2, c3⟩ := hp.out.cells
    have hme := hp.out.plc
    have d0 : ∀ q : Bel wr, q.W.cell? ⟨p, 0, none⟩ = some (.string s) := fun q => q.cell c0
    have d1 : ∀ q : Bel wr, q.W.cell? ⟨p, 1, none⟩ = some (.int .i64 (j : Int)) := fun q => q.cell c1
    clear c0 c1 c2 c3
    by_cases hlt : j < s.size
    · have hji : (j : Int) < (s.size : Int) := by omega
      have hgt := byteAt_get s j hlt
      have hst : Hid ((((s[j]'hlt).toNat : Nat) : Int) = 32 → ∀ k, i ≤ k → k < j + 1 → byteAt s k = 32) := fun h k h1 h2 => by
        by_cases q : k = j
        · rw [q, ← hgt]; exact h
        · exact hbk.out k h1 (by omega)
      have hen : Hid (¬ (((s[j]'hlt).toNat : Nat) : Int) = 32 → j = skipB s i) := fun h => skip_is hij hj hbk.out (fun _ => by rw [← hgt]; exact h)
      clear hgt
      cases hc : ((((s[j]'hlt).toNat : Nat) : Int) == 32) with
      | true =>
        have hst2 : Hid (∀ k, i ≤ k → k < j + 1 → byteAt s k = 32) := hst.out (eq_of_beq hc)
        clear hst hen
        go_wp2
        refine wp_region_bel (by kernel_rfl) (by kernel_rfl) ?_
        repeat (go_big_quiet_step (fail "no call"))
        refine wpQuiet_nil ?_
        rintro W ⟨q, rfl⟩
        have hq := q.h
        have hp1 := hp.out.grow hq
        have hf1 := hf.out.trans (Fp.of hq)
        generalize q.W = W1 at *
        obtain ⟨a0, a1, a2, a3⟩ := hp1.cells
        have z1 := hp1.frozen 1
        clear d0 d1
        have hm2 := (hp1.set1 (j + 1)).plc
        go_wp2
        refine ⟨⟨j + 1, by omega, by omega, hp1.set1 (j + 1), hf1.set 1 _, hst2⟩, ?_⟩
        rw [hme]
        have e1 : ((j : Int) + 1) = ((j + 1 : Nat) : Int) := by omega
        rw [e1, hm2]
        omega
      | false =>
        have hen2 : Hid (j = skipB s i) := hen.out (fun q => by rw [q] at hc; exact absurd hc (by decide))
        clear hst hen
        go_wp2
        refine wp_region_bel (by kernel_rfl) (by kernel_rfl) ?_
        repeat (go_big_quiet_step (fail "no call"))
        refine wpQuiet_nil ?_
        rintro W ⟨q, rfl⟩
        have hq := q.h
        have hp1 := hp.out.grow hq
        have hf1 := hf.out.trans (Fp.of hq)
        generalize q.W = W1 at *
        obtain ⟨a0, a1, a2, a3⟩ := hp1.cells
        have z1 := hp1.frozen 1
        clear d0 d1
        go_wp2
        go_end0
        exact ⟨rfl, j, hij, hj, hp1, hf1, hen2⟩
    · have hji : ¬ (j : Int) < (s.size : Int) := by omega
      have hen2 : Hid (j = skipB s i) := skip_is hij hj hbk.out (fun q => absurd q hlt)
      go_wp2
      refine wp_region_bel (by kernel_rfl) (by kernel_rfl) ?_
      repeat (go_big_quiet_step (fail "no call"))
      refine wpQuiet_nil ?_
      rintro W ⟨q, rfl⟩
      have hq := q.h
      have hp1 := hp.out.grow hq
      have hf1 := hf.out.trans (Fp.of hq)
      generalize q.W = W1 at *
      obtain ⟨a0, a1, a2, a3⟩ := hp1.cells
      have z1 := hp1.frozen 1
      clear d0 d1
      go_wp2
      go_end0
      exact ⟨rfl, j, hij, hj, hp1, hf1, hen2⟩
/-- function: whether, in the same world. -/
def fnB (s : ByteArray) : Bool := (s.toList == [97, 98, 115]) || (s.toList == [102, 108, 111, 111, 114]) || (s.toList == [105, 115, 95, 110, 117, 108, 108]) || (s.toList == [105, 115, 95, 110, 97, 110]) || (s.toList == [105, 115, 95, 105, 110, 102]) || (s.toList == [105, 115, 95, 110, 117, 109, 98, 101, 114])
theorem isfn_any (s : ByteArray) (w : World) : Calls Tryz.prog 215 #[.string s] w fun e w' => e = .returned (.bool (fnB s)) ∧ w' = w := by
  obtain ⟨R, hR⟩ : ∃ R, Hid (R = fnB s) := ⟨_, rfl⟩
  rw [← hR.out]
  unfold fnB at hR
  cases h0 : (s.toList == [97, 98, 115]) with
  | true =>
    have e : R = true := by rw [hR.out]; simp [h0]
    subst e
    go_enter Tryz.func215, Tryz.ntmps215
    go_wp2
    go_ret
    exact ⟨rfl, rfl⟩
  | false =>
    cases h1 : (s.toList == [102, 108, 111, 111, 114]) with
    | true =>
      have e : R = true := by rw [hR.out]; simp [h1]
      subst e
      go_enter Tryz.func215, Tryz.ntmps215
      go_wp2
      go_ret
      exact ⟨rfl, rfl⟩
    | false =>
      cases h2 : (s.toList == [105, 115, 95, 110, 117, 108, 108]) with
      | true =>
        have e : R = true := by rw [hR.out]; simp [h2]
        subst e
        go_enter Tryz.func215, Tryz.ntmps215
        go_wp2
        go_ret
        exact ⟨rfl, rfl⟩
      | false =>
        cases h3 : (s.toList == [105, 115, 95, 110, 97, 110]) with
        | true =>
          have e : R = true := by rw [hR.out]; simp [h3]
          subst e
          go_enter Tryz.func215, Tryz.ntmps215
          go_wp2
          go_ret
          exact ⟨rfl, rfl⟩
        | false =>
          cases h4 : (s.toList == [105, 115, 95, 105, 110, 102]) with
          | true =>
            have e : R = true := by rw [hR.out]; simp [h4]
            subst e
            go_enter Tryz.func215, Tryz.ntmps215
            go_wp2
            go_ret
            exact ⟨rfl, rfl⟩
          | false =>
            cases h5 : (s.toList == [105, 115, 95, 110, 117, 109, 98, 101, 114]) with
            | true =>
              have e : R = true := by rw [hR.out]; simp [h5]
              subst e
              go_enter Tryz.func215, Tryz.ntmps215
              go_wp2
              go_ret
              exact ⟨rfl, rfl⟩
            | false =>
              have e : R = false := by rw [hR.out, h0, h1, h2, h3, h4, h5]; rfl
              subst e
              go_enter Tryz.func215, Tryz.ntmps215
              go_wp2
              go_ret
              exact ⟨rfl, rfl⟩
set_option maxRecDepth 100000 in
set_option maxHeartbeats 2000000 in
/-- Parser.word. -/
theorem rword_any (w : World) (p : Nat) (s : ByteArray) (i : Nat) (e t : Int) (h : RpT w p s i e t) (n : Nat) (hn : n ≤ s.size) (hs : s.size ≤ 1000000) : Calls Tryz.prog 214 #[.pointer (some ⟨p, 0, none⟩), .int .i64 (n : Int)] w fun r w' => ∃ u : ByteArray, r = .returned (.string u) ∧ n + u.size ≤ s.size ∧ w' = w ∧ Hid (u = s.extract n (n + runN isWrd (s.extract n s.size))) := by
  have hL : Hid (∀ (c : Int) W, Calls Tryz.prog 77 #[.int .u8 c] W fun e w' => e = .returned (.bool (letB c)) ∧ w' = W) := fun c W => letter77 c W
  have hD : Hid (∀ (c : Int) W, Calls Tryz.prog 78 #[.int .u8 c] W fun e w' => e = .returned (.bool (digB c)) ∧ w' = W) := fun c W => digit78 c W
  obtain ⟨c0, c1, c2, c3⟩ := h.cells
  go_enter Tryz.func214, Tryz.ntmps214
  go_wp2
  go_loop [5] (fun i => ∃ k : Nat, n ≤ k ∧ k ≤ s.size ∧ i = .int .i64 k ∧ Hid (∀ j, n ≤ j → j < k → isWrd (byteAt s j) = true)) (fun i => s.size - (intOf i).toNat)
  case atStart => exact ⟨n, Nat.le_refl _, hn, rfl, fun j a b => by omega⟩
  case round =>
    obtain ⟨k, hnk, hk, rfl, hwk⟩ := hrel
    have hki2 : (k : Int) ≤ (s.size : Int) := by omega
    have hnki : (n : Int) ≤ (k : Int) := by omega
    have hsz : n + (s.extract n k).size ≤ s.size := by rw [ByteArray.size_extract]; omega
    by_cases hlt : k < s.size
    · have hki : (k : Int) < (s.size : Int) := by omega
      have hgt := byteAt_get s k hlt
      have hst : Hid ((letB ((((s[k]'hlt).toNat : Nat) : Int)) || digB ((((s[k]'hlt).toNat : Nat) : Int))) = true → ∀ j, n ≤ j → j < k + 1 → isWrd (byteAt s j) = true) := fun h j h1 h2 => by
        by_cases q : j = k
        · rw [q, ← hgt, wrd_is]; exact h
        · exact hwk.out j h1 (by omega)
      have hen : Hid ((letB ((((s[k]'hlt).toNat : Nat) : Int)) || digB ((((s[k]'hlt).toNat : Nat) : Int))) = false → s.extract n k = s.extract n (n + runN isWrd (s.extract n s.size))) := fun h => by
        rw [run_is hnk hk hwk.out (fun _ => by rw [← hgt, wrd_is]; exact h), show n + (k - n) = k by omega]
      clear hgt
      have hLk := hL.out ((((s[k]'hlt).toNat : Nat) : Int))
      have hDk := hD.out ((((s[k]'hlt).toNat : Nat) : Int))
      generalize letB ((((s[k]'hlt).toNat : Nat) : Int)) = BL at *
      generalize digB ((((s[k]'hlt).toNat : Nat) : Int)) = BD at *
      cases BL <;> cases BD <;> (go_wp2_with (first | (go_at_call 77; refine (hLk _).mono ?_; rintro e wx ⟨rfl, hwx⟩; subst wx) | (go_at_call 78; refine (hDk _).mono ?_; rintro e wx ⟨rfl, hwx⟩; subst wx))) <;> (first | (refine ⟨⟨k + 1, by omega, by omega, by go_num, hst.out rfl⟩, ?_⟩; simp [intOf]; omega) | (go_ret; exact ⟨_, rfl, hsz, rfl, hen.out rfl⟩))
    · obtain rfl : k = s.size := by omega
      have hki : ¬ (s.size : Int) < (s.size : Int) := by omega
      have hen : Hid (s.extract n s.size = s.extract n (n + runN isWrd (s.extract n s.size))) := by
        show _ = _
        rw [run_is hnk hk hwk.out (fun q => absurd q (by omega)), show n + (s.size - n) = s.size by omega]
      go_wp2
      go_ret
      exact ⟨_, rfl, hsz, rfl, hen⟩
end Go.Proofs.YtaffplmfnincfaaGreatDoor
/- DagChecks: the document's parser: sign, take, must, call. -/
namespace Go.Proofs.YtaffplmfnincfaaGreatDoor
set_option linter.unusedVariables false
open Go.RowKit
/-- A block of these texts. -/
def StrL (w : World) (b : Nat) (L : List ByteArray) : Prop := b < w.heap.size ∧ ∀ k, k < L.length → w.cell? ⟨b, k, none⟩ = some (.string (L.getD k ⟨#[]⟩)) ∧ (L.getD k ⟨#[]⟩).size ≤ 1000
theorem StrL.block {w w' : World} {b : Nat} {L : List ByteArray} (h : StrL w b L) (hb : w'.heap[b]? = w.heap[b]?) (hs : w.heap.size ≤ w'.heap.size) : StrL w' b L := by
  refine ⟨Nat.lt_of_lt_of_le h.1 hs, fun k hk => ?_⟩
  obtain ⟨hu, hl⟩ := h.2 k hk
  refine ⟨?_, hl⟩
  rw [← hu]
  simp [World.cell?, hb]
theorem StrL.grow {w w' : World} {b : Nat} {L : List ByteArray} (h : StrL w b L) (hb : Below w.heap.size w w') : StrL w' b L := h.block (hb.block b h.1) hb.size
theorem StrL.fp {w w' : World} {b p : Nat} {L : List ByteArray} (h : StrL w b L) (hf : Fp p w w') (hne : b ≠ p) : StrL w' b L := h.block (hf.block b h.1 hne) hf.size
theorem strL_new (w : World) (l : List ByteArray) (hl : ∀ u ∈ l, u.size ≤ 1000) : StrL (w.alloc (.cells (l.map Value.string).toArray 9)) w.heap.size l := by
  refine ⟨by simp, fun k hk => ⟨?_, hl _ (by simp [List.getD, hk])⟩⟩
  have : l[k]? = some (l.getD k ⟨#[]⟩) := by simp [List.getD, hk]
  have hblk : (w.alloc (.cells (l.map Value.string).toArray 9)).heap[w.heap.size]? = some (.cells (l.map Value.string).toArray 9 (0, 0)) := by
    show (w.heap.push _)[w.heap.size]? = _
    simp
  have h2 : (l.map Value.string).toArray[k]? = some (.string (l.getD k ⟨#[]⟩)) := by
    rw [List.getElem?_toArray, List.getElem?_map, this]
    rfl
  unfold World.cell?
  rw [hblk]
  exact h2
/-- The signs, in their order. -/
def SL : List ByteArray := [⟨#[124, 124]⟩, ⟨#[38, 38]⟩, ⟨#[61, 61]⟩, ⟨#[33, 61]⟩, ⟨#[60, 61]⟩, ⟨#[62, 61]⟩, ⟨#[60]⟩, ⟨#[62]⟩, ⟨#[43]⟩, ⟨#[45]⟩, ⟨#[42]⟩, ⟨#[47]⟩, ⟨#[33]⟩, ⟨#[40]⟩, ⟨#[41]⟩]
theorem sl_is : SL = signL.map (·.1) := rfl
theorem sg_sl (s : ByteArray) : sgHd s = (SL.find? (fun x => preS s x)).getD ⟨#[]⟩ := by
  rw [sl_is, List.find?_map]
  unfold sgHd
  show _ = (Option.map _ (signL.find? (fun x => preS s x.1))).getD _
  cases signL.find? (fun x => preS s x.1) <;> rfl
theorem find_k {α : Type} (p : α → Bool) (d : α) : ∀ (l : List α) (k : Nat), k < l.length → (∀ j, j < k → p (l.getD j d) = false) → p (l.getD k d) = true → l.find? p = some (l.getD k d)
  | [], k, hk, _, _ => by simp at hk
  | a :: l, 0, _, _, h => by
    rw [List.getD_cons_zero] at h ⊢
    rw [List.find?_cons, h]
  | a :: l, k + 1, hk, h1, h2 => by
    have h0 := h1 0 (by omega)
    rw [List.getD_cons_zero] at h0
    rw [List.getD_cons_succ] at h2 ⊢
    rw [List.find?_cons, h0]
    exact find_k p d l k (by simpa using hk) (fun j hj => by have := h1 (j + 1) (by omega); rwa [List.getD_cons_succ] at this) h2
theorem find_end {α : Type} (p : α → Bool) (d : α) (l : List α) (h : ∀ j, j < l.length → p (l.getD j d) = false) : l.find? p = none := List.find?_eq_none.2 fun x hx => by
  obtain ⟨i, hi, rfl⟩ := List.getElem_of_mem hx
  have := h i hi
  rw [List.getD_eq_getElem?_getD, List.getElem?_eq_getElem hi] at this
  show ¬ p l[i] = true
  rw [show p l[i] = false from this]; decide
theorem pre_cut {s u : ByteArray} {j : Nat} (h : j + u.size ≤ s.size) : preS (s.extract j s.size) u = ((s.extract j (j + u.size)).toList == u.toList) := by
  rw [ByteArray.toList_eq, ByteArray.toList_eq]
  unfold preS
  rw [ext_list, ext_take, Nat.add_sub_cancel_left]
  rw [show u.size = u.data.toList.length from by rw [Array.length_toList]; rfl]
  rw [Bool.eq_iff_iff, List.isPrefixOf_iff_prefix, beq_iff_eq, List.prefix_iff_eq_take]
  exact eq_comm
theorem pre_far {s u : ByteArray} {j : Nat} (hj : j ≤ s.size) (h : ¬ j + u.size ≤ s.size) : preS (s.extract j s.size) u = false := by
  cases e : preS (s.extract j s.size) u with
  | false => rfl
  | true =>
    have := pre_len e
    rw [ext_size _ _ _ (Nat.le_refl _)] at this
    omega
/-- What sign tells. -/
def SgQ (s : ByteArray) (p i : Nat) (e t : Int) (w : World) (r : Ending) (w' : World) : Prop := ∃ (u : ByteArray) (j : Nat), r = .returned (.string u) ∧ i ≤ j ∧ j + u.size ≤ s.size ∧ Hid (RpT w' p s j e t) ∧ Hid (Fp p w w') ∧ Hid (e ≠ 0 → u = ⟨#[]⟩) ∧ Hid (j = skipB s i ∧ (e = 0 → u = sgT s (skipB s i)))
set_option maxRecDepth 100000 in
set_option maxHeartbeats 4000000 in
/-- Parser.sign. -/
theorem sign93 (w : World) (p : Nat) (s : ByteArray) (i : Nat) (e t : Int) (h : RpT w p s i e t) (hi : i ≤ s.size) (hs : s.size ≤ 1000000) : Calls Tryz.prog 117 #[.pointer (some ⟨p, 0, none⟩)] w fun r w' => SgQ s p i e t w r w' := by
  have hbl := blanks_any w p s i e t h hi hs
  have hrow := fun W => strL_new W [⟨#[124, 124]⟩, ⟨#[38, 38]⟩, ⟨#[61, 61]⟩, ⟨#[33, 61]⟩, ⟨#[60, 61]⟩, ⟨#[62, 61]⟩, ⟨#[60]⟩, ⟨#[62]⟩, ⟨#[43]⟩, ⟨#[45]⟩, ⟨#[42]⟩, ⟨#[47]⟩, ⟨#[33]⟩, ⟨#[40]⟩, ⟨#[41]⟩] (by decide)
  simp only [List.map] at hrow
  go_enter Tryz.func117, Tryz.ntmps117
  go_wp2_with (first | (go_at_call 51; refine hbl.mono ?_; clear hbl; rintro r w1 ⟨rfl, j, hij, hj, hp, hf, hjs⟩; apply Hid.out))
  have hr1 := hrow w1
  have hp1 := hp.out.grow (bW0 w1 (.cells #[.string ⟨#[124, 124]⟩, .string ⟨#[38, 38]⟩, .string ⟨#[61, 61]⟩, .string ⟨#[33, 61]⟩, .string ⟨#[60, 61]⟩, .string ⟨#[62, 61]⟩, .string ⟨#[60]⟩, .string ⟨#[62]⟩, .string ⟨#[43]⟩, .string ⟨#[45]⟩, .string ⟨#[42]⟩, .string ⟨#[47]⟩, .string ⟨#[33]⟩, .string ⟨#[40]⟩, .string ⟨#[41]⟩] 9))
  have hf1 := hf.out.trans (Fp.of (bW0 w1 (.cells #[.string ⟨#[124, 124]⟩, .string ⟨#[38, 38]⟩, .string ⟨#[61, 61]⟩, .string ⟨#[33, 61]⟩, .string ⟨#[60, 61]⟩, .string ⟨#[62, 61]⟩, .string ⟨#[60]⟩, .string ⟨#[62]⟩, .string ⟨#[43]⟩, .string ⟨#[45]⟩, .string ⟨#[42]⟩, .string ⟨#[47]⟩, .string ⟨#[33]⟩, .string ⟨#[40]⟩, .string ⟨#[41]⟩] 9)))
  generalize hW2 : w1.alloc (.cells #[.string ⟨#[124, 124]⟩, .string ⟨#[38, 38]⟩, .string ⟨#[61, 61]⟩, .string ⟨#[33, 61]⟩, .string ⟨#[60, 61]⟩, .string ⟨#[62, 61]⟩, .string ⟨#[60]⟩, .string ⟨#[62]⟩, .string ⟨#[43]⟩, .string ⟨#[45]⟩, .string ⟨#[42]⟩, .string ⟨#[47]⟩, .string ⟨#[33]⟩, .string ⟨#[40]⟩, .string ⟨#[41]⟩] 9) = w2 at *
  generalize hBX : w1.heap.size = BX at *
  unfold Hid
  clear hrow hp hf h
  have hq0 : Hid (RpT w2 p s j e t) := hp1
  have hr0 : Hid (StrL w2 BX SL) := hr1
  have hf0 : Hid (Fp p w w2) := hf1
  clear hp1 hr1 hf1
  go_wp2
  go_loopw [4] (fun v wr => ∃ k : Nat, k ≤ 15 ∧ v = .int .i64 k ∧ Hid (Below w2.heap.size w2 wr) ∧ Hid (∀ q, q < k → preS (s.extract j s.size) (SL.getD q ⟨#[]⟩) = false)) (fun v _ => 15 - (intOf v).toNat)
  case atStart => exact ⟨0, by omega, rfl, Below.refl _ _, fun q h => absurd h (Nat.not_lt_zero _)⟩
  case round =>
    obtain ⟨k, hk, rfl, hbr, hnk⟩ := hrel
    have hpr := hq0.out.grow hbr.out
    have hfr := hf0.out.trans (Fp.of hbr.out)
    obtain ⟨c0, c1, c2, c3⟩ := hpr.cells
    by_cases hlt : k < 15
    · have hki : (k : Int) < 15 := by omega
      cases he : (e == 0) with
      | false =>
        have hne0 : Hid (e ≠ 0) := fun q => by rw [q] at he; exact absurd he (by decide)
        go_wp2
        go_ret
        exact ⟨_, j, rfl, hij, hj, hpr, hfr, fun _ => rfl, hjs.out, fun q => absurd q (hne0.out)⟩
      | true =>
        have he0 : Hid (e ≠ 0 → False) := fun h => h (by simpa using he)
        obtain ⟨hu, hul⟩ := (hr0.out.grow hbr.out).2 k hlt
        have hyes : Hid (preS (s.extract j s.size) (SL.getD k ⟨#[]⟩) = true → SL.getD k ⟨#[]⟩ = sgT s (skipB s i)) := fun q => by
          rw [← hjs.out]
          show _ = sgHd _
          rw [sg_sl, find_k _ ⟨#[]⟩ SL k hlt hnk.out q]
          rfl
        have hnx : Hid (preS (s.extract j s.size) (SL.getD k ⟨#[]⟩) = false → ∀ q, q < k + 1 → preS (s.extract j s.size) (SL.getD q ⟨#[]⟩) = false) := fun h q hq => by
          by_cases e : q = k
          · rw [e]; exact h
          · exact hnk.out q (by omega)
        have hcut : Hid (j + (SL.getD k ⟨#[]⟩).size ≤ s.size → preS (s.extract j s.size) (SL.getD k ⟨#[]⟩) = ((s.extract j (j + (SL.getD k ⟨#[]⟩).size)).toList == (SL.getD k ⟨#[]⟩).toList)) := fun h => pre_cut h
        have hfar : Hid (¬ j + (SL.getD k ⟨#[]⟩).size ≤ s.size → preS (s.extract j s.size) (SL.getD k ⟨#[]⟩) = false) := fun h => pre_far (by omega) h
        generalize SL.getD k ⟨#[]⟩ = u at *
        have d0 : ∀ q : Bel wr, q.W.cell? ⟨p, 0, none⟩ = some (.string s) := fun q => q.cell c0
        have d1 : ∀ q : Bel wr, q.W.cell? ⟨p, 1, none⟩ = some (.int .i64 (j : Int)) := fun q => q.cell c1
        have d2 : ∀ q : Bel wr, q.W.cell? ⟨BX, k, none⟩ = some (.string u) := fun q => q.cell hu
        by_cases hfit : j + u.size ≤ s.size
        · have hcut2 : Hid (_ = ((s.extract j (j + u.size)).toList == u.toList)) := hcut.out hfit
          have hfi : (j : Int) + (u.size : Int) ≤ (s.size : Int) := by omega
          have hji : (j : Int) ≤ (j : Int) + (u.size : Int) := by omega
          cases hE : ((s.extract j (j + u.size)).toList == u.toList) with
          | true =>
            have hus : Hid (u = sgT s (skipB s i)) := hyes.out (hcut2.out.trans hE)
            clear hyes hnx hcut hcut2 hfar
            go_wp2
            refine wp_region_bel (by kernel_rfl) (by kernel_rfl) ?_
            repeat (go_big_quiet_step (fail "no call"))
            refine wpQuiet_nil ?_
            rintro W ⟨q, rfl⟩
            have hq := q.h
            have hb1 : Hid (Below w2.heap.size w2 q.W) := hbr.out.trans (hq.mono hbr.out.size)
            have hp1 : Hid (RpT q.W p s j e t) := hpr.grow hq
            have hf1 : Hid (Fp p w q.W) := hfr.trans (Fp.of hq)
            have hu1 := d2 q
            generalize q.W = W1 at *
            clear d0 d1 d2 hq c0 c1 c2 c3 hu
            go_wp2
            go_ret
            exact ⟨u, j, rfl, hij, hfit, hp1, hf1, fun h => (he0.out h).elim, hjs.out, fun _ => hus.out⟩
          | false =>
            have hnx2 : Hid (∀ q, q < k + 1 → preS (s.extract j s.size) (SL.getD q ⟨#[]⟩) = false) := hnx.out (hcut2.out.trans hE)
            clear hyes hnx hcut hcut2 hfar
            go_wp2
            refine wp_region_bel (by kernel_rfl) (by kernel_rfl) ?_
            repeat (go_big_quiet_step (fail "no call"))
            refine wpQuiet_nil ?_
            rintro W ⟨q, rfl⟩
            have hq := q.h
            have hb1 : Hid (Below w2.heap.size w2 q.W) := hbr.out.trans (hq.mono hbr.out.size)
            have hp1 : Hid (RpT q.W p s j e t) := hpr.grow hq
            have hf1 : Hid (Fp p w q.W) := hfr.trans (Fp.of hq)
            have hu1 := d2 q
            generalize q.W = W1 at *
            clear d0 d1 d2 hq c0 c1 c2 c3 hu
            go_wp2
            refine ⟨⟨k + 1, by omega, by go_num, hb1, hnx2⟩, ?_⟩
            simp [intOf]; omega
        · have hfi : ¬ (j : Int) + (u.size : Int) ≤ (s.size : Int) := by omega
          have hfd : decide ((j : Int) + (u.size : Int) ≤ (s.size : Int)) = false := decide_eq_false hfi
          have hfb : (j : Int) + (u.size : Int) ≤ 9223372036854775807 := by omega
          have hnx2 : Hid (∀ q, q < k + 1 → preS (s.extract j s.size) (SL.getD q ⟨#[]⟩) = false) := hnx.out (hfar.out hfit)
          clear hyes hnx hcut hfar
          go_wp2
          refine wp_region_bel (by kernel_rfl) (by kernel_rfl) ?_
          repeat (go_big_quiet_step (fail "no call"))
          refine wpQuiet_nil ?_
          rintro W ⟨q, rfl⟩
          have hq := q.h
          have hb1 : Hid (Below w2.heap.size w2 q.W) := hbr.out.trans (hq.mono hbr.out.size)
          have hp1 : Hid (RpT q.W p s j e t) := hpr.grow hq
          have hf1 : Hid (Fp p w q.W) := hfr.trans (Fp.of hq)
          have hu1 := d2 q
          generalize q.W = W1 at *
          clear d0 d1 d2 hq c0 c1 c2 c3 hu
          go_wp2
          refine ⟨⟨k + 1, by omega, by go_num, hb1, hnx2⟩, ?_⟩
          simp [intOf]; omega
    · have hki : ¬ (k : Int) < 15 := by omega
      have hend : Hid (⟨#[]⟩ = sgT s (skipB s i)) := by
        show _ = _
        rw [← hjs.out]
        show _ = sgHd _
        rw [sg_sl, find_end _ ⟨#[]⟩ SL (fun q hq => hnk.out q (by have : SL.length = 15 := rfl; omega))]
        rfl
      go_wp2
      go_ret
      exact ⟨_, j, rfl, hij, hj, hpr, hfr, fun _ => rfl, hjs.out, fun _ => hend.out⟩
end Go.Proofs.YtaffplmfnincfaaGreatDoor
/- DagChecks: the document's parser: take, must, call. -/
namespace Go.Proofs.YtaffplmfnincfaaGreatDoor
set_option linter.unusedVariables false
open Go.RowKit
/-- What take tells: nothing, or a sign, and then it stands behind it. -/
def TkQ (L : List ByteArray) (s : ByteArray) (p i : Nat) (e t : Int) (w : World) (r : Ending) (w' : World) : Prop := ∃ (u : ByteArray) (j : Nat), r = .returned (.string u) ∧ i ≤ j ∧ j ≤ s.size ∧ Hid (RpT w' p s j e t) ∧ Hid (Fp p w w') ∧ ((u = ⟨#[]⟩ ∧ Hid (j = skipB s i ∧ (e = 0 → sgT s (skipB s i) ∉ L))) ∨ (u.toList.isEmpty = false ∧ (u.toList == []) = false ∧ Hid ((e = 0 ∧ i < j) ∧ u ∈ L ∧ sgT s (skipB s i) = u ∧ j = skipB s i + u.size ∧ u ≠ ⟨#[]⟩)))
theorem ne_txt {u : ByteArray} (h : u ≠ ⟨#[]⟩) : u.toList.isEmpty = false ∧ (u.toList == []) = false ∧ 1 ≤ u.size := by
  have h1 : 1 ≤ u.size := by
    rcases Nat.eq_zero_or_pos u.size with h0 | h0
    · exact absurd (ByteArray.ext (Array.eq_empty_of_size_eq_zero h0)) h
    · exact h0
  have h2 : u.toList ≠ [] := fun e => by
    rw [ByteArray.toList_eq] at e
    have : u.data.toList.length = 0 := by rw [e]; rfl
    rw [Array.length_toList] at this
    have h3 : u.size = u.data.size := rfl
    omega
  refine ⟨?_, ?_, h1⟩
  · cases hx : u.toList with
    | nil => exact absurd hx h2
    | cons a l => rfl
  · cases hx : u.toList with
    | nil => exact absurd hx h2
    | cons a l => rfl
set_option maxRecDepth 100000 in
set_option maxHeartbeats 4000000 in
/-- Parser.take. -/
theorem take64 (w : World) (p : Nat) (s : ByteArray) (i : Nat) (e t : Int) (h : RpT w p s i e t) (hi : i ≤ s.size) (hs : s.size ≤ 1000000) (b n : Nat) (L : List ByteArray) (hL : n = L.length) (hr : StrL w b L) (hb : b ≠ p) (hn : n ≤ 1000) (hz : ∀ u ∈ L, u ≠ ⟨#[]⟩) : Calls Tryz.prog 70 #[.pointer (some ⟨p, 0, none⟩), .slice (some ⟨b, 0, none⟩) n n] w fun r w' => TkQ L s p i e t w r w' := by
  have hsg := sign93 w p s i e t h hi hs
  have hLn : Hid (n = L.length) := hL
  clear hL
  go_enter Tryz.func70, Tryz.ntmps70
  go_wp2_with (first | (go_at_call 117; refine hsg.mono ?_; clear hsg; rintro r w1 ⟨u, j, rfl, hij, hj, hp, hf, hu, hsu⟩; apply Hid.out))
  have hr1 : Hid (StrL w1 b L) := hr.fp hf.out hb
  have hp1 := hp.out
  obtain ⟨c0, c1, c2, c3⟩ := hp1.cells
  have z1 := hp1.frozen 1
  have hji : (j : Int) + (u.size : Int) ≤ (s.size : Int) := by omega
  have hu2 : Hid (u ≠ ⟨#[]⟩ → u.toList.isEmpty = false ∧ (u.toList == []) = false ∧ 1 ≤ u.size) := fun h => ne_txt h
  have hset : Hid (RpT (w1.setCell ⟨p, 1, none⟩ (.int .i64 ((j : Int) + (u.size : Int)))) p s (j + u.size) e t) := by
    have := hp1.set1 (j + u.size)
    have e1 : (((j + u.size : Nat)) : Int) = (j : Int) + (u.size : Int) := by omega
    rw [e1] at this
    exact this
  unfold Hid
  have hnil : Hid (⟨#[]⟩ ∉ L) := fun q => hz _ q rfl
  clear h hr hp1 hz
  go_wp2
  go_loop [6] (fun v => ∃ k : Nat, k ≤ n ∧ v = .int .i64 k ∧ Hid (u ≠ ⟨#[]⟩ → ∀ q, q < k → u ≠ L.getD q ⟨#[]⟩)) (fun v => n - (intOf v).toNat)
  case atStart => exact ⟨0, Nat.zero_le _, rfl, fun _ q h => absurd h (Nat.not_lt_zero _)⟩
  case round =>
    obtain ⟨k, hk, rfl, hnk⟩ := hrel
    by_cases hlt : k < n
    · have hki : (k : Int) < (n : Int) := by omega
      obtain ⟨hv, hvl⟩ := hr1.out.2 k (by have := hLn.out; omega)
      have hmem : Hid (L.getD k ⟨#[]⟩ ∈ L) := lgetD_mem L ⟨#[]⟩ k (by have := hLn.out; omega)
      have hnx : Hid (u ≠ L.getD k ⟨#[]⟩ → u ≠ ⟨#[]⟩ → ∀ q, q < k + 1 → u ≠ L.getD q ⟨#[]⟩) := fun h h0 q hq => by
        by_cases e : q = k
        · rw [e]; exact h
        · exact hnk.out h0 q (by omega)
      generalize L.getD k ⟨#[]⟩ = v at *
      cases hE : (u.toList == v.toList) with
      | false =>
        have hnx2 : Hid (u ≠ ⟨#[]⟩ → ∀ q, q < k + 1 → u ≠ L.getD q ⟨#[]⟩) := hnx.out (fun h => by rw [h] at hE; simp at hE)
        clear hnx
        go_wp2
        refine ⟨⟨k + 1, by omega, by go_num, hnx2⟩, ?_⟩
        simp [intOf]; omega
      | true =>
        by_cases h0 : u = ⟨#[]⟩
        · subst h0
          have hnx2 : Hid ((⟨#[]⟩ : ByteArray) ≠ ⟨#[]⟩ → ∀ q, q < k + 1 → (⟨#[]⟩ : ByteArray) ≠ L.getD q ⟨#[]⟩) := fun h => absurd rfl h
          clear hnx
          go_wp2
          all_goals (refine ⟨⟨k + 1, by omega, by go_num, hnx2⟩, ?_⟩; simp [intOf]; omega)
        · obtain ⟨g1, g2, g3⟩ := hu2.out h0
          go_wp2
          go_ret
          have he0 : e = 0 := by
            by_cases he : e = 0
            · exact he
            · exact absurd (hu.out he) h0
          have huv : u = v := toList_eq hE
          exact ⟨u, j + u.size, rfl, by omega, hj, hset, hf.out.set 1 _, .inr ⟨g1, g2, ⟨he0, by omega⟩, by rw [huv]; exact hmem.out, (hsu.out.2 he0).symm, by rw [hsu.out.1], h0⟩⟩
    · have hki : ¬ (k : Int) < (n : Int) := by omega
      go_wp2
      go_ret
      refine ⟨_, j, rfl, hij, by omega, hp, hf, .inl ⟨rfl, hsu.out.1, fun he0 hin => ?_⟩⟩
      rw [← hsu.out.2 he0] at hin
      obtain ⟨q, hq, e⟩ := List.getElem_of_mem hin
      by_cases h0 : u = ⟨#[]⟩
      · exact hnil.out (by rw [← h0]; exact hin)
      · refine hnk.out h0 q (by have := hLn.out; omega) ?_
        rw [List.getD_eq_getElem?_getD, List.getElem?_eq_getElem hq]
        exact e.symm
/-- What a small step leaves. -/
def StQ (u : ByteArray) (s : ByteArray) (p i : Nat) (e : Int) (w : World) (r : Ending) (w' : World) : Prop := r = .returned (.tuple #[]) ∧ ∃ (j : Nat) (e' t' : Int), i ≤ j ∧ j ≤ s.size ∧ Hid (RpT w' p s j e' t') ∧ Hid (Fp p w w') ∧ Hid (e ≠ 0 → e' ≠ 0) ∧ Hid (e = 0 → (e' = 0 ∧ sgT s (skipB s i) = u ∧ j = skipB s i + u.size) ∨ (e' ≠ 0 ∧ sgT s (skipB s i) ≠ u))
set_option maxRecDepth 100000 in
set_option maxHeartbeats 4000000 in
/-- Parser.must. -/
theorem must272 (w : World) (p : Nat) (s : ByteArray) (i : Nat) (e t : Int) (h : RpT w p s i e t) (hi : i ≤ s.size) (hs : s.size ≤ 1000000) (u : ByteArray) (hu : u.size ≤ 1000) (hu0 : u ≠ ⟨#[]⟩) : Calls Tryz.prog 212 #[.pointer (some ⟨p, 0, none⟩), .string u] w fun r w' => StQ u s p i e w r w' := by
  have hpl := h.lt
  have hb := bW0 w (.cells #[.string u] 9)
  have hr : StrL (w.alloc (.cells #[.string u] 9)) w.heap.size [u] := strL_new w [u] (fun v hv => by rw [List.mem_singleton.1 hv]; exact hu)
  have htk := take64 _ p s i e t (h.grow hb) hi hs w.heap.size 1 [u] rfl hr (by omega) (by omega) (fun v h => by rw [List.mem_singleton.1 h]; exact hu0)
  have hfl : Hid (∀ W j, RpT W p s j e t → Calls Tryz.prog 52 #[.pointer (some ⟨p, 0, none⟩), .int .i64 110, .int .i64 (j : Int)] W fun r w' => r = .returned (.tuple #[]) ∧ Hid (Fp p W w' ∧ ∃ e' t', RpT w' p s j e' t' ∧ (e ≠ 0 → e' = e) ∧ (e = 0 → e' = 110))) := fun W j g => fail_any W p s j e t 110 j g
  have hf0 : Hid (Fp p w (w.alloc (.cells #[.string u] 9))) := Fp.of hb
  go_enter Tryz.func212, Tryz.ntmps212
  go_wp2_with (first | (go_at_call 70; refine htk.mono ?_; clear htk; rintro r w1 ⟨v, j, rfl, hij, hj, hp, hf, hv⟩; apply Hid.out))
  obtain ⟨c0, c1, c2, c3⟩ := hp.out.cells
  have hfj := hfl.out w1 j hp.out
  have hff := hf0.out.trans hf.out
  unfold Hid
  clear hfl hb hr
  rcases hv with ⟨rfl, hv⟩ | ⟨g1, g2, g3⟩
  · go_wp2_with (first | (go_at_call 52; refine hfj.mono ?_; clear hfj; rintro r w2 ⟨rfl, h2⟩))
    go_end0
    obtain ⟨hf2, e', t', hp2, k1, k2⟩ := h2.out
    exact ⟨rfl, j, e', t', hij, hj, hp2, hff.trans hf2, fun h0 => by rw [k1 h0]; exact h0, fun h0 => .inr ⟨by rw [k2 h0]; decide, fun q => hv.out.2 h0 (by rw [q]; exact List.mem_singleton.2 rfl)⟩⟩
  · go_wp2
    go_end0
    have hvu := List.mem_singleton.1 g3.out.2.1
    exact ⟨rfl, j, e, t, hij, hj, hp, hff, fun h => h, fun h0 => .inl ⟨h0, by rw [g3.out.2.2.1, hvu], by rw [g3.out.2.2.2.1, hvu]⟩⟩
set_option maxRecDepth 100000 in
set_option maxHeartbeats 2000000 in
/-- The document's call. -/
theorem rcall_any (n : ByteArray) (a : Option Addr) (m c : Nat) (w : World) : Calls Tryz.prog 71 #[.string n, .slice a m c] w fun e w' => e = .returned (.agg #[.int .i64 3, .string n, .int .i64 0, .int .i64 0, .slice a m c]) ∧ Below w.heap.size w w' := by
  go_enter Tryz.func71, Tryz.ntmps71
  go_wp2
  exact ret27 Tryz.results71 rfl (bxNew w 62 _ _ _ _ _) ⟨rfl, bW0 w _⟩
end Go.Proofs.YtaffplmfnincfaaGreatDoor
/- DagChecks: the document's parser: what its functions tell; loops of operators. -/
namespace Go.Proofs.YtaffplmfnincfaaGreatDoor
set_option linter.unusedVariables false
open Go.RowKit
/-- What is read of a job, from a place on. -/
def JobR (s : ByteArray) (Jb : Nat → Job) (i j : Nat) (e e' : Int) (X : Ex) : Prop := e = 0 → (e' = 0 ∧ Rd parC s (Jb (skipB s i)) (.ok X) (skipB s j)) ∨ (e' ≠ 0 ∧ ∃ er k, Rd parC s (Jb (skipB s i)) (.error er) k)
/-- What is read between two rounds. -/
def LqR (s : ByteArray) (l d i j : Nat) (e e1 : Int) (X : Ex) : Prop := e = 0 → (e1 = 0 ∧ ∀ r k, Rd parC s (.lp l d X (skipB s j)) r k → Rd parC s (.op l d (skipB s i)) r k) ∨ (e1 ≠ 0 ∧ ∃ er k, Rd parC s (.op l d (skipB s i)) (.error er) k)
section
variable {s : ByteArray} {l d i j : Nat} {e e1 : Int} {X : Ex}
theorem LqR.start2 {i0 : Nat} (hi : skipB s i0 = skipB s i) (hl : l ≠ 5) (h : JobR s (Job.op (l + 1) d) i0 j e e1 X) : LqR s l d i j e e1 X := fun he => by
  rcases h he with ⟨h1, h2⟩ | ⟨h1, er, k, h2⟩
  · exact .inl ⟨h1, fun r k h3 => Rd.opLp parC hl (by rw [← hi]; exact h2) h3⟩
  · exact .inr ⟨h1, er, k, Rd.opErr parC hl (by rw [← hi]; exact h2)⟩
theorem LqR.start (hl : l ≠ 5) (h : JobR s (Job.op (l + 1) d) i j e e1 X) : LqR s l d i j e e1 X := LqR.start2 rfl hl h
theorem LqR.done {j2 : Nat} (h : LqR s l d i j e e1 X) (hn : e1 = 0 → levOf (tokAt parC s (skipB s j)).text ≠ (l : Int)) (hj : j2 = skipB s j) : JobR s (Job.op l d) i j2 e e1 X := fun he => by
  rcases h he with ⟨h1, h2⟩ | h2
  · exact .inl ⟨h1, by rw [hj, skip_idem]; exact h2 _ _ (Rd.lpEnd parC (hn h1))⟩
  · exact .inr h2
theorem LqR.step {j2 j5 : Nat} {e5 : Int} {v : ByteArray} {X5 : Ex} (h2 : l ≠ 2) (h : LqR s l d i j e e1 X) (he1 : e1 = 0) (hv : v ≠ ⟨#[]⟩) (hs : sgT s (skipB s j) = v) (hj : j2 = skipB s j + v.size) (hl : levOf v = (l : Int)) (g : JobR s (Job.op (l + 1) d) j2 j5 e1 e5 X5) : LqR s l d i j5 e e5 (exC v [X, X5]) := fun he => by
  obtain ⟨k1, k2⟩ := tk_yes hv hs
  have kt : (tokAt parC s (skipB s j)).text = v := by rw [k1]
  rcases h he with ⟨_, h3⟩ | ⟨h3, _⟩
  · rcases g he1 with ⟨g1, g2⟩ | ⟨g1, er, k, g2⟩
    · refine .inl ⟨g1, fun r k g3 => h3 _ _ ?_⟩
      refine Rd.lpMore parC (by rw [kt]; exact hl) h2 (by rw [k2, ← hj]; exact g2) (by rw [kt]; exact g3)
    · exact .inr ⟨g1, er, k, h3 _ _ (Rd.lpErr parC (by rw [kt]; exact hl) (by rw [k2, ← hj]; exact g2))⟩
  · exact absurd he1 h3
theorem LqR.rel {j2 j5 : Nat} {e5 : Int} {v : ByteArray} {X5 : Ex} (h : LqR s 2 d i j e e1 X) (he1 : e1 = 0) (hv : v ≠ ⟨#[]⟩) (hs : sgT s (skipB s j) = v) (hj : j2 = skipB s j + v.size) (hl : levOf v = ((2 : Nat) : Int)) (g : JobR s (Job.op 3 d) j2 j5 e1 e5 X5) : JobR s (Job.op 2 d) i j5 e e5 (exC v [X, X5]) := fun he => by
  obtain ⟨k1, k2⟩ := tk_yes hv hs
  have kt : (tokAt parC s (skipB s j)).text = v := by rw [k1]
  rcases h he with ⟨_, h3⟩ | ⟨h3, _⟩
  · rcases g he1 with ⟨g1, g2⟩ | ⟨g1, er, k, g2⟩
    · refine .inl ⟨g1, h3 _ _ ?_⟩
      have := Rd.lpRel parC (x := X) (y := X5) (j := skipB s j5) (by rw [kt]; exact hl) (by rw [k2, ← hj]; exact g2)
      rw [kt] at this
      exact this
    · exact .inr ⟨g1, er, k, h3 _ _ (Rd.lpErr parC (by rw [kt]; exact hl) (by rw [k2, ← hj]; exact g2))⟩
  · exact absurd he1 h3
/-- What stands too deep is no operand. -/
theorem deep_op (h : 32 < d) : ∀ n, n ≤ 5 → ∃ er k, Rd parC s (.op (5 - n) d i) (.error er) k := by
  intro n
  induction n with
  | zero =>
    intro _
    cases ho : opens (tokAt parC s i) with
    | false => exact ⟨_, _, Rd.opTop parC (Rd.odNo ho)⟩
    | true => exact ⟨_, _, Rd.opTop parC (Rd.odDeep ho h)⟩
  | succ n ih =>
    intro hn
    obtain ⟨er, k, g⟩ := ih (by omega)
    exact ⟨er, k, Rd.opErr parC (by omega) (by rw [show 5 - (n + 1) + 1 = 5 - n by omega]; exact g)⟩
theorem deep_od (h : 32 < d) : ∃ er k, Rd parC s (.od d i) (.error er) k := by
  cases ho : opens (tokAt parC s i) with
  | false => exact ⟨_, _, Rd.odNo ho⟩
  | true => exact ⟨_, _, Rd.odDeep ho h⟩
theorem LqR.deep (h : 32 < d) (h1 : e = 0 → e1 ≠ 0) : LqR s 0 d i j e e1 X := fun he => .inr ⟨h1 he, deep_op h 5 (Nat.le_refl _)⟩
theorem JobR.top (h : JobR s (Job.od d) i j e e1 X) : JobR s (Job.op 5 d) i j e e1 X := fun he => by
  rcases h he with ⟨h1, h2⟩ | ⟨h1, er, k, h2⟩
  · exact .inl ⟨h1, Rd.opTop parC h2⟩
  · exact .inr ⟨h1, er, k, Rd.opTop parC h2⟩
end
/-- What a function of the document's parser tells: a tree, where there is no error. -/
structure JdR (Jb : Nat → Job) (s : ByteArray) (p i : Nat) (e : Int) (W w' : World) (u : Value) (j : Nat) (e' t' : Int) (X : Ex) : Prop where
  ge : i ≤ j
  le : j ≤ s.size
  rp : RpT w' p s j e' t'
  fp : Fp p W w'
  er : e ≠ 0 → e' ≠ 0
  v : ExV w' (fun b => W.heap.size ≤ b) X u
  we : JobR s Jb i j e e' X
def JdQ (Jb : Nat → Job) (s : ByteArray) (p i : Nat) (e : Int) (W : World) (r : Ending) (w' : World) : Prop :=
  ∃ (k : Int) (n : ByteArray) (x y : Int) (a : Option Addr) (m c : Nat), r = .returned (.agg #[.int .i64 k, .string n, .int .i64 x, .int .i64 y, .slice a m c]) ∧ ∃ (j : Nat) (e' t' : Int) (X : Ex), Hid (JdR Jb s p i e W w' (.agg #[.int .i64 k, .string n, .int .i64 x, .int .i64 y, .slice a m c]) j e' t' X)
def JD (f : Nat) (d : Nat) (s : ByteArray) (Jb : Nat → Job) : Prop := ∀ (W : World) (p i : Nat) (e t : Int), RpT W p s i e t → i ≤ s.size → Calls Tryz.prog f #[.pointer (some ⟨p, 0, none⟩), .int .i64 (d : Int)] W fun r w' => JdQ Jb s p i e W r w'
theorem ExV.less2 {w : World} {A : Nat → Prop} {t : Ex} {u : Value} (h : ExV w A t u) : ExV w (fun b => A b ∧ b < w.heap.size) t u := by
  obtain ⟨K, h1, h2⟩ := h
  exact ⟨K, h1, kidsV.keep (fun _ _ _ => rfl) (Nat.le_refl _) (fun b h g => ⟨h, g⟩) _ _ h2⟩
/-- What stands between two rounds. -/
structure Lq (s : ByteArray) (p i BX : Nat) (e : Int) (W wr : World) (j : Nat) (e1 t1 k : Int) (n : ByteArray) (x y : Int) (a : Option Addr) (m c : Nat) (X : Ex) : Prop where
  ge : i ≤ j
  le : j ≤ s.size
  rp : RpT wr p s j e1 t1
  fp : Fp p W wr
  pl : p < W.heap.size
  er : e ≠ 0 → e1 ≠ 0
  bx : W.heap.size < BX
  z : Bx wr W.heap.size 62 (.int .i64 0) (.string ⟨#[]⟩) (.int .i64 0) (.int .i64 0) (.slice none 0 0)
  b : Bx wr BX 62 (.int .i64 k) (.string n) (.int .i64 x) (.int .i64 y) (.slice a m c)
  v : ExV wr (fun b => W.heap.size < b ∧ b ≠ BX) X (.agg #[.int .i64 k, .string n, .int .i64 x, .int .i64 y, .slice a m c])
section
variable {Jb : Nat → Job} {s : ByteArray} {p i BX : Nat} {e : Int} {W wr : World} {j : Nat} {e1 t1 k : Int} {n : ByteArray} {x y : Int} {a : Option Addr} {m c : Nat} {X : Ex}
theorem Lq.start {w1 : World} {t : Int} (hp : RpT W p s i e t) (h : JdR Jb s p i e (W.alloc zE) w1 (.agg #[.int .i64 k, .string n, .int .i64 x, .int .i64 y, .slice a m c]) j e1 t1 X) :
    Lq s p i w1.heap.size e W (w1.alloc (.cells #[.int .i64 k, .string n, .int .i64 x, .int .i64 y, .slice a m c] 62)) j e1 t1 k n x y a m c X := by
  have hb := bW0 W zE
  have hb1 := bW0 w1 (.cells #[.int .i64 k, .string n, .int .i64 x, .int .i64 y, .slice a m c] 62)
  have hs := h.fp.size
  have hs0 : (W.alloc zE).heap.size = W.heap.size + 1 := by simp
  have hpl := hp.lt
  refine ⟨h.ge, h.le, h.rp.grow hb1, ((Fp.of hb).trans h.fp).trans (Fp.of hb1), hpl, h.er, by omega, ((bxNew W 62 _ _ _ _ _).fp h.fp (by omega)).grow hb1, bxNew w1 62 _ _ _ _ _, ?_⟩
  exact (h.v.less2.grow hb1).more fun b hb => ⟨by have := hb.1; omega, by have := hb.2; omega⟩
theorem Lq.start2 {w0 w1 : World} {i0 : Nat} {e0 : Int} (hp : p < W.heap.size) (hf : Fp p (W.alloc zE) w0) (hi : i ≤ i0) (he : e ≠ 0 → e0 ≠ 0) (h : JdR Jb s p i0 e0 w0 w1 (.agg #[.int .i64 k, .string n, .int .i64 x, .int .i64 y, .slice a m c]) j e1 t1 X) :
    Lq s p i w1.heap.size e W (w1.alloc (.cells #[.int .i64 k, .string n, .int .i64 x, .int .i64 y, .slice a m c] 62)) j e1 t1 k n x y a m c X := by
  have hb := bW0 W zE
  have hb1 := bW0 w1 (.cells #[.int .i64 k, .string n, .int .i64 x, .int .i64 y, .slice a m c] 62)
  have hs := h.fp.size
  have hsf := hf.size
  have hs0 : (W.alloc zE).heap.size = W.heap.size + 1 := by simp
  refine ⟨Nat.le_trans hi h.ge, h.le, h.rp.grow hb1, (((Fp.of hb).trans hf).trans h.fp).trans (Fp.of hb1), hp, fun q => h.er (he q), by omega, (((bxNew W 62 _ _ _ _ _).fp hf (by omega)).fp h.fp (by omega)).grow hb1, bxNew w1 62 _ _ _ _ _, ?_⟩
  exact (h.v.less2.grow hb1).more fun b hb => ⟨by have := hb.1; omega, by have := hb.2; omega⟩
theorem Lq.take {w2 : World} {b2 j2 : Nat} (h : Lq s p i BX e W wr j e1 t1 k n x y a m c X) (hb : Below wr.heap.size wr w2) {w3 : World} (hr : RpT w3 p s j2 e1 t1) (hf : Fp p w2 w3) (hj : j ≤ j2) (hl : j2 ≤ s.size) : Lq s p i BX e W w3 j2 e1 t1 k n x y a m c X := by
  have hp := h.pl
  have h1 := h.bx
  exact ⟨Nat.le_trans h.ge hj, hl, hr, (h.fp.trans (Fp.of hb)).trans hf, hp, h.er, h.bx, (h.z.grow hb).fp hf (by omega), (h.b.grow hb).fp hf (by omega), (h.v.grow hb).fp hf (fun b hb => by have := hb.1; omega)⟩
theorem Lq.step {w3 w5 : World} {e2 t2 k2 : Int} {n2 N : ByteArray} {x2 y2 : Int} {a2 : Option Addr} {m2 c2 j2 : Nat} {X2 : Ex} (h : Lq s p i BX e W wr j e1 t1 k n x y a m c X)
    (g : JdR Jb s p j e1 wr w3 (.agg #[.int .i64 k2, .string n2, .int .i64 x2, .int .i64 y2, .slice a2 m2 c2]) j2 e2 t2 X2)
    (hb : Below (w3.heap.size + 1) (w3.alloc (.cells #[.int .i64 k, .string n, .int .i64 x, .int .i64 y, .slice a m c, .int .i64 k2, .string n2, .int .i64 x2, .int .i64 y2, .slice a2 m2 c2] 62)) w5) :
    Bx w5 BX 62 (.int .i64 k) (.string n) (.int .i64 x) (.int .i64 y) (.slice a m c) ∧ Lq s p i BX e W (set5 w5 BX (.int .i64 3) (.string N) (.int .i64 0) (.int .i64 0) (.slice (some ⟨w3.heap.size, 0, none⟩) 2 2)) j2 e2 t2 3 N 0 0 (some ⟨w3.heap.size, 0, none⟩) 2 2 (exC N [X, X2]) := by
  have hp := h.pl
  have h1 := h.bx
  have h2 := h.b.lt
  have h3 := g.fp.size
  have hb0 := bW0 w3 (.cells #[.int .i64 k, .string n, .int .i64 x, .int .i64 y, .slice a m c, .int .i64 k2, .string n2, .int .i64 x2, .int .i64 y2, .slice a2 m2 c2] 62)
  have hs0 : (w3.alloc (.cells #[.int .i64 k, .string n, .int .i64 x, .int .i64 y, .slice a m c, .int .i64 k2, .string n2, .int .i64 x2, .int .i64 y2, .slice a2 m2 c2] 62)).heap.size = w3.heap.size + 1 := by simp
  rw [← hs0] at hb
  have hb5 : Below w3.heap.size w3 w5 := hb0.trans (hb.mono hb0.size)
  have hx5 := (h.b.fp g.fp (by omega)).grow hb5
  have hz5 := (h.z.fp g.fp (by omega)).grow hb5
  have hf5 : Fp p W w5 := (h.fp.trans g.fp).trans (Fp.of hb5)
  have hW := h.fp.size
  have v1 := (h.v.less2.fp g.fp (fun b hb => by have := hb.1.1; omega)).more (A' := fun b => W.heap.size < b ∧ b ≠ BX) fun b hb => hb.1
  have v2 := g.v.more (A' := fun b => W.heap.size < b ∧ b ≠ BX) fun b hb => ⟨by omega, by omega⟩
  have v3 := exC2_V (A := fun b => W.heap.size < b ∧ b ≠ BX) X X2 N _ _ _ _ _ _ _ _ _ _ v1 v2 ⟨by omega, by omega⟩
  refine ⟨hx5, Nat.le_trans h.ge g.ge, g.le, (g.rp.grow hb5).hi5 (by omega) _ _ _ _ _, hf5.hi5 (by omega) _ _ _ _ _, hp, fun q => g.er (h.er q), h1, (set5_block (by omega)).trans hz5, hx5.set, ?_⟩
  exact (v3.grow hb).hi5 (fun b hb => hb.2) _ _ _ _ _
theorem ExV.drew {w : World} {A : Nat → Prop} {t : Ex} {u : Value} (h : ExV w A t u) : ExV w.drew A t u := by
  obtain ⟨K, h1, h2⟩ := h
  exact ⟨K, h1, kidsV.keep (w := w) (w' := w.drew) (A := A) (fun _ _ _ => rfl) (Nat.le_refl _) (fun _ h _ => h) _ _ h2⟩
theorem Lq.drew (h : Lq s p i BX e W wr j e1 t1 k n x y a m c X) : Lq s p i BX e W wr.drew j e1 t1 k n x y a m c X := ⟨h.ge, h.le, h.rp, h.fp.drew, h.pl, h.er, h.bx, h.z, h.b, h.v.drew⟩
/-- The end: the tree is told out of the first box. -/
theorem Lq.done (h : Lq s p i BX e W wr j e1 t1 k n x y a m c X) (hw : JobR s Jb i j e e1 X) : Bx (set5 wr W.heap.size (.int .i64 k) (.string n) (.int .i64 x) (.int .i64 y) (.slice a m c)) W.heap.size 62 (.int .i64 k) (.string n) (.int .i64 x) (.int .i64 y) (.slice a m c) ∧
    JdR Jb s p i e W (set5 wr W.heap.size (.int .i64 k) (.string n) (.int .i64 x) (.int .i64 y) (.slice a m c)) (.agg #[.int .i64 k, .string n, .int .i64 x, .int .i64 y, .slice a m c]) j e1 t1 X := by
  have hp := h.pl
  refine ⟨h.z.set, h.ge, h.le, h.rp.hi5 (by omega) _ _ _ _ _, h.fp.hi5 (Nat.le_refl _) _ _ _ _ _, h.er, ?_, hw⟩
  exact (h.v.hi5 (x := W.heap.size) (fun b hb => by have := hb.1; omega) _ _ _ _ _).more fun b hb => by have := hb.1; omega
/-- What is stored into the first box is told. -/
theorem jd_out {w : World} {c0 c1 c2 c3 c4 : Value} (hp : p < W.heap.size) (hf : Fp p (W.alloc zE) w) (hr : RpT w p s j e1 t1) (h1 : i ≤ j) (h2 : j ≤ s.size) (he : e ≠ 0 → e1 ≠ 0) (hv : ExV w (fun b => W.heap.size < b) X (.agg #[c0, c1, c2, c3, c4])) (hw : JobR s Jb i j e e1 X) :
    Bx (set5 w W.heap.size c0 c1 c2 c3 c4) W.heap.size 62 c0 c1 c2 c3 c4 ∧ JdR Jb s p i e W (set5 w W.heap.size c0 c1 c2 c3 c4) (.agg #[c0, c1, c2, c3, c4]) j e1 t1 X := by
  have hb := bW0 W zE
  refine ⟨((bxNew W 62 _ _ _ _ _).fp hf (by omega)).set, h1, h2, hr.hi5 (by omega) _ _ _ _ _, ((Fp.of hb).trans hf).hi5 (Nat.le_refl _) _ _ _ _ _, he, ?_, hw⟩
  exact (hv.hi5 (x := W.heap.size) (fun b hb => by omega) _ _ _ _ _).more fun b hb => by omega
end
end Go.Proofs.YtaffplmfnincfaaGreatDoor
/- DagChecks: the document's parser: what an operand is read as: mathematics. -/
namespace Go.Proofs.YtaffplmfnincfaaGreatDoor
set_option linter.unusedVariables false
open Go.RowKit
theorem dig_is (c : Int) : isDig c = digB c := by
  unfold isDig digB
  by_cases h7 : (48 : Int) ≤ c <;> by_cases h8 : c ≤ (57 : Int) <;> simp [h7, h8]
theorem ext_mid (s : ByteArray) (i a b : Nat) (h : i + b ≤ s.size) : (s.extract i s.size).extract a b = s.extract (i + a) (i + b) := ba_ext (by
  rw [ext_take, ext_list, ext_take, List.drop_drop, Nat.add_sub_add_left])
section
variable {s : ByteArray} {d i j j2 j5 j6 : Nat} {e5 e6 : Int} {X : Ex}
theorem JobR.no (h : opens (tokAt parC s (skipB s i)) = false) (he : e6 ≠ 0) : JobR s (Job.od d) i j6 0 e6 X := fun _ => .inr ⟨he, _, _, Rd.odNo h⟩
theorem JobR.sign {v : ByteArray} (hd : d ≤ 32) (hv : v ∈ [(⟨#[45]⟩ : ByteArray), ⟨#[33]⟩]) (hs : sgT s (skipB s i) = v) (hj : j2 = skipB s i + v.size) (g : JobR s (Job.od (d + 1)) j2 j5 0 e5 X) : JobR s (Job.od d) i j5 0 e5 (exC v [X]) := fun _ => by
  have hv0 : v ≠ ⟨#[]⟩ ∧ v ≠ ⟨#[40]⟩ ∧ opens ⟨2, v.size, v, zer⟩ = true := (show ∀ u ∈ [(⟨#[45]⟩ : ByteArray), ⟨#[33]⟩], u ≠ ⟨#[]⟩ ∧ u ≠ ⟨#[40]⟩ ∧ opens ⟨2, u.size, u, zer⟩ = true by decide +kernel) v hv
  obtain ⟨k1, k2⟩ := tk_yes hv0.1 hs
  have ho : opens (tokAt parC s (skipB s i)) = true := by rw [k1]; exact hv0.2.2
  have kt : (tokAt parC s (skipB s i)).text = v := by rw [k1]
  have kk : (tokAt parC s (skipB s i)).kind = 2 := by rw [k1]
  rcases g rfl with ⟨g1, g2⟩ | ⟨g1, er, k, g2⟩
  · refine .inl ⟨g1, ?_⟩
    have := Rd.odSg (n := d) ho (by omega) (by rw [kt]; exact hv0.2.1) (by rw [kk]; decide) (by rw [kk]; decide) (by rw [kk]; decide) (by rw [k2, ← hj]; exact g2)
    rw [kt] at this
    exact this
  · exact .inr ⟨g1, er, k, Rd.odSgE ho (by omega) (by rw [kt]; exact hv0.2.1) (by rw [kk]; decide) (by rw [kk]; decide) (by rw [kk]; decide) (by rw [k2, ← hj]; exact g2)⟩
/-- What stands in brackets. -/
theorem br_read {n q j2 j5 j6 : Nat} (hs : sgT s q = ⟨#[40]⟩) (hj : j2 = q + (⟨#[40]⟩ : ByteArray).size) (g : JobR s (Job.op 0 (n + 1)) j2 j5 0 e5 X) (hm : e5 = 0 → (e6 = 0 ∧ sgT s (skipB s j5) = ⟨#[41]⟩ ∧ j6 = skipB s j5 + (⟨#[41]⟩ : ByteArray).size) ∨ (e6 ≠ 0 ∧ sgT s (skipB s j5) ≠ ⟨#[41]⟩)) (he : e5 ≠ 0 → e6 ≠ 0) : (e6 = 0 ∧ Rd parC s (.br n q) (.ok X) (skipB s j6)) ∨ (e6 ≠ 0 ∧ ∃ er k, Rd parC s (.br n q) (.error er) k) := by
  obtain ⟨k1, k2⟩ := tk_yes (by decide) hs
  have kt : (tokAt parC s q).text = ⟨#[40]⟩ := by rw [k1]
  have k3 : nxt parC s q = skipB s j2 := by rw [k2, hj]
  rcases g rfl with ⟨g1, g2⟩ | ⟨g1, er, k, g2⟩
  · rcases hm g1 with ⟨m1, m2, m3⟩ | ⟨m1, m2⟩
    · obtain ⟨q1, q2⟩ := tk_yes (by decide) m2
      refine .inl ⟨m1, ?_⟩
      have := Rd.brOk kt (by rw [k3]; exact g2) (by rw [q1])
      rw [q2] at this
      rw [m3]
      exact this
    · exact .inr ⟨m1, _, _, Rd.brOpen kt (by rw [k3]; exact g2) (tk_not (show ∃ x ∈ signL, x.1 = ⟨#[41]⟩ by decide +kernel) m2)⟩
  · exact .inr ⟨he g1, er, k, Rd.brErr kt (by rw [k3]; exact g2)⟩
theorem JobR.paren (hd : d ≤ 32) (hs : sgT s (skipB s i) = ⟨#[40]⟩) (hj : j2 = skipB s i + (⟨#[40]⟩ : ByteArray).size) (g : JobR s (Job.op 0 (d + 1)) j2 j5 0 e5 X) (hm : e5 = 0 → (e6 = 0 ∧ sgT s (skipB s j5) = ⟨#[41]⟩ ∧ j6 = skipB s j5 + (⟨#[41]⟩ : ByteArray).size) ∨ (e6 ≠ 0 ∧ sgT s (skipB s j5) ≠ ⟨#[41]⟩)) (he : e5 ≠ 0 → e6 ≠ 0) : JobR s (Job.od d) i j6 0 e6 X := fun _ => by
  obtain ⟨k1, k2⟩ := tk_yes (by decide) hs
  have kt : (tokAt parC s (skipB s i)).text = ⟨#[40]⟩ := by rw [k1]
  have ho : opens (tokAt parC s (skipB s i)) = true := by rw [k1]; decide
  rcases br_read hs hj g hm he with ⟨h1, h2⟩ | ⟨h1, er, k, h2⟩
  · exact .inl ⟨h1, Rd.odBr ho (by omega) kt h2⟩
  · exact .inr ⟨h1, er, k, Rd.odBr ho (by omega) kt h2⟩
/-- The end of the text. -/
theorem opens_end {q : Nat} (h : s.size ≤ q) : opens (tokAt parC s q) = false := by
  have : (s.extract q s.size).size = 0 := by rw [ByteArray.size_extract]; omega
  unfold tokAt firstTok
  rw [if_pos this]
  decide
theorem tok_size0 {q : Nat} (h : q < s.size) : ¬ (s.extract q s.size).size = 0 := by rw [ext_size _ _ _ (Nat.le_refl _)]; omega
/-- Numbers. -/
theorem tok_num {q K : Nat} (hq : q < s.size) (hK : q ≤ K) (hKs : K ≤ s.size) (hd : isDig (byteAt s q) = true) (hn : numSize (s.extract q s.size) = K - q) : (∀ v, parC (s.extract q K) = some v → tokAt parC s q = ⟨3, K - q, ⟨#[]⟩, v⟩) ∧ (parC (s.extract q K) = none → tokAt parC s q = tk0) := by
  have h0 : ¬ byteAt s q = 36 := fun h => by rw [h] at hd; exact absurd hd (by decide)
  unfold tokAt firstTok
  rw [if_neg (tok_size0 hq), byteAt_ext, Nat.add_zero, if_neg h0, if_pos hd]
  unfold firstNum
  rw [hn, ext_pre _ _ _ (by omega), show q + (K - q) = K by omega]
  exact ⟨fun v h => by rw [h], fun h => by rw [h]⟩
theorem JobR.num {K : Nat} {v : Vl} (hd : d ≤ 32) (hq : skipB s i < s.size) (hK : skipB s i ≤ K) (hKs : K ≤ s.size) (hdg : isDig (byteAt s (skipB s i)) = true) (hn : numSize (s.extract (skipB s i) s.size) = K - skipB s i) (hv : parC (s.extract (skipB s i) K) = some v) : JobR s (Job.od d) i K 0 0 (exN v) := fun _ => .inl ⟨rfl, by
  have ht : tokAt parC s (skipB s i) = ⟨3, K - skipB s i, ⟨#[]⟩, v⟩ := (tok_num hq hK hKs hdg hn).1 v hv
  have := Rd.odNum (s := s) (i := skipB s i) (n := d) (by rw [ht]; rfl) (by omega) (by rw [ht]; show (⟨#[]⟩ : ByteArray) ≠ ⟨#[40]⟩; decide) (by rw [ht])
  unfold nxt at this
  rw [ht] at this
  simp only at this
  rw [show skipB s i + (K - skipB s i) = K by omega] at this
  exact this⟩
theorem num_no {q K : Nat} (hq : q < s.size) (hK : q ≤ K) (hKs : K ≤ s.size) (hdg : isDig (byteAt s q) = true) (hn : numSize (s.extract q s.size) = K - q) (hv : parC (s.extract q K) = none) : opens (tokAt parC s q) = false := by
  rw [(tok_num hq hK hKs hdg hn).2 hv]
  decide
/-- Where a number ends (a structure: nothing unfolds it). -/
structure NumQ (s : ByteArray) (i K : Nat) : Prop where
  h : numSize (s.extract i s.size) = K - i
/-- Refs. -/
theorem tok_ref {q : Nat} {u : ByteArray} (hq : q < s.size) (hc : byteAt s q = 36) (hu : u = s.extract (q + 1) (q + 1 + runN isWrd (s.extract (q + 1) s.size))) : tokAt parC s q = if refB u = true then ⟨4, 1 + u.size, u, zer⟩ else tk0 := by
  have hr := runN_le isWrd (s.extract (q + 1) s.size)
  rw [ext_size _ _ _ (Nat.le_refl _)] at hr
  unfold tokAt firstTok
  rw [if_neg (tok_size0 hq), byteAt_ext, Nat.add_zero, if_pos hc]
  unfold firstRef
  simp only
  rw [ext_ext, ext_mid _ _ _ _ (by omega), show q + (1 + runN isWrd (s.extract (q + 1) s.size)) = q + 1 + runN isWrd (s.extract (q + 1) s.size) by omega, ← hu]
theorem JobR.ref {u : ByteArray} (hd : d ≤ 32) (hq : skipB s i < s.size) (hc : byteAt s (skipB s i) = 36) (hu : u = s.extract (skipB s i + 1) (skipB s i + 1 + runN isWrd (s.extract (skipB s i + 1) s.size))) (hr : refB u = true) : JobR s (Job.od d) i (skipB s i + 1 + u.size) 0 0 (exR u) := fun _ => .inl ⟨rfl, by
  have ht := tok_ref hq hc hu
  rw [if_pos hr] at ht
  have hn : u ≠ ⟨#[40]⟩ := fun h => by rw [h] at hr; exact absurd hr (by decide +kernel)
  have := Rd.odRef (s := s) (i := skipB s i) (n := d) (by rw [ht]; rfl) (by omega) (by rw [ht]; exact hn) (by rw [ht])
  unfold nxt at this
  rw [ht] at this
  simp only at this
  rw [show skipB s i + (1 + u.size) = skipB s i + 1 + u.size by omega] at this
  exact this⟩
theorem ref_no {q : Nat} {u : ByteArray} (hq : q < s.size) (hc : byteAt s q = 36) (hu : u = s.extract (q + 1) (q + 1 + runN isWrd (s.extract (q + 1) s.size))) (hr : refB u = false) : opens (tokAt parC s q) = false := by
  rw [tok_ref hq hc hu, if_neg (by rw [hr]; decide)]
  decide
/-- Words. -/
theorem tok_word {q : Nat} {u : ByteArray} (hq : q < s.size) (h1 : byteAt s q ≠ 36) (h2 : isDig (byteAt s q) = false) (h3 : isWrd (byteAt s q) = true) (hu : u = s.extract q (q + runN isWrd (s.extract q s.size))) : tokAt parC s q = ofWord u := by
  have hr := runN_le isWrd (s.extract q s.size)
  rw [ext_size _ _ _ (Nat.le_refl _)] at hr
  unfold tokAt firstTok
  rw [if_neg (tok_size0 hq), byteAt_ext, Nat.add_zero, if_neg h1, if_neg (by rw [h2]; decide), if_pos h3, ext_pre _ _ _ (by omega), ← hu]
theorem lit_eq {u : ByteArray} {l : List UInt8} (h : (u.toList == l) = true) : u = ⟨l.toArray⟩ := ba_ext (by rw [← ByteArray.toList_eq]; exact eq_of_beq h)
theorem JobR.cst {u : ByteArray} {v : Vl} (hd : d ≤ 32) (ht : tokAt parC s (skipB s i) = ⟨3, u.size, ⟨#[]⟩, v⟩) : JobR s (Job.od d) i (skipB s i + u.size) 0 0 (exN v) := fun _ => .inl ⟨rfl, by
  have := Rd.odNum (s := s) (i := skipB s i) (n := d) (by rw [ht]; rfl) (by omega) (by rw [ht]; show (⟨#[]⟩ : ByteArray) ≠ ⟨#[40]⟩; decide) (by rw [ht])
  unfold nxt at this
  rw [ht] at this
  exact this⟩
theorem ofWord_fn {u : ByteArray} (h1 : (u.toList == [110, 117, 108, 108]) = false) (h2 : (u.toList == [110, 97, 110]) = false) (h3 : (u.toList == [105, 110, 102]) = false) : ofWord u = if fnB u = true then ⟨5, u.size, u, zer⟩ else tk0 := by
  have n : ∀ l : List UInt8, (u.toList == l) = decide (u = ⟨l.toArray⟩) := fun l => by
    rw [Bool.eq_iff_iff, decide_eq_true_iff]
    exact ⟨lit_eq, fun h => by rw [h, ByteArray.toList_eq]; simp⟩
  rw [n] at h1 h2 h3
  unfold ofWord
  rw [if_neg (of_decide_eq_false h1), if_neg (of_decide_eq_false h2), if_neg (of_decide_eq_false h3)]
  have : (fnB u = true) ↔ (u = ⟨#[97, 98, 115]⟩ ∨ u = ⟨#[102, 108, 111, 111, 114]⟩ ∨ u = ⟨#[105, 115, 95, 110, 117, 108, 108]⟩ ∨ u = ⟨#[105, 115, 95, 110, 97, 110]⟩ ∨ u = ⟨#[105, 115, 95, 105, 110, 102]⟩ ∨ u = ⟨#[105, 115, 95, 110, 117, 109, 98, 101, 114]⟩) := by
    unfold fnB
    rw [n, n, n, n, n, n]
    simp only [Bool.or_eq_true, decide_eq_true_eq, or_assoc]
  by_cases h : fnB u = true
  · rw [if_pos h, if_pos (this.1 h)]
  · rw [if_neg h, if_neg (fun q => h (this.2 q))]
theorem JobR.fn {u : ByteArray} {e1 : Int} {j1 : Nat} (hd : d ≤ 32) (hu : u ≠ ⟨#[40]⟩) (ht : tokAt parC s (skipB s i) = ⟨5, u.size, u, zer⟩) (h1 : (e1 = 0 ∧ sgT s (skipB s (skipB s i + u.size)) = ⟨#[40]⟩ ∧ j1 = skipB s (skipB s i + u.size) + (⟨#[40]⟩ : ByteArray).size) ∨ (e1 ≠ 0 ∧ sgT s (skipB s (skipB s i + u.size)) ≠ ⟨#[40]⟩)) (g : JobR s (Job.op 0 (d + 1)) j1 j5 e1 e5 X) (hg : e1 ≠ 0 → e5 ≠ 0) (hm : e5 = 0 → (e6 = 0 ∧ sgT s (skipB s j5) = ⟨#[41]⟩ ∧ j6 = skipB s j5 + (⟨#[41]⟩ : ByteArray).size) ∨ (e6 ≠ 0 ∧ sgT s (skipB s j5) ≠ ⟨#[41]⟩)) (he : e5 ≠ 0 → e6 ≠ 0) : JobR s (Job.od d) i j6 0 e6 (exC u [X]) := fun _ => by
  have kt : (tokAt parC s (skipB s i)).text = u := by rw [ht]
  have kk : (tokAt parC s (skipB s i)).kind = 5 := by rw [ht]
  have ho : opens (tokAt parC s (skipB s i)) = true := by rw [ht]; rfl
  have kn : nxt parC s (skipB s i) = skipB s (skipB s i + u.size) := by unfold nxt; rw [ht]
  rcases h1 with ⟨q1, q2, q3⟩ | ⟨q1, q2⟩
  · subst q1
    rcases br_read (n := d) q2 q3 g hm he with ⟨r1, r2⟩ | ⟨r1, er, k, r2⟩
    · refine .inl ⟨r1, ?_⟩
      have := Rd.odFn (n := d) ho (by omega) (by rw [kt]; exact hu) kk (by rw [kn]; exact r2)
      rw [kt] at this
      exact this
    · exact .inr ⟨r1, er, k, Rd.odFnE ho (by omega) (by rw [kt]; exact hu) kk (by rw [kn]; exact r2)⟩
  · exact .inr ⟨he (hg q1), _, _, Rd.odFnE ho (by omega) (by rw [kt]; exact hu) kk (Rd.brNo (by rw [kn]; exact tk_not (show ∃ x ∈ signL, x.1 = ⟨#[40]⟩ by decide +kernel) q2))⟩
/-- Other bytes. -/
theorem sign_no {q : Nat} (hq : q < s.size) (h1 : byteAt s q ≠ 36) (h2 : isDig (byteAt s q) = false) (h3 : isWrd (byteAt s q) = false) (h4 : sgT s q ∉ [(⟨#[40]⟩ : ByteArray)]) (h5 : sgT s q ∉ [(⟨#[45]⟩ : ByteArray), ⟨#[33]⟩]) : opens (tokAt parC s q) = false := by
  by_cases e : sgT s q = ⟨#[]⟩
  · have : tokAt parC s q = tk0 := by
      unfold tokAt firstTok
      rw [if_neg (tok_size0 hq), byteAt_ext, Nat.add_zero, if_neg h1, if_neg (by rw [h2]; decide), if_neg (by rw [h3]; decide)]
      unfold firstSign
      unfold sgT sgHd at e
      cases hf : signL.find? (fun x => preS (s.extract q s.size) x.1) with
      | none => rfl
      | some x =>
        rw [hf] at e
        have e1 : x.1 = ⟨#[]⟩ := e
        have := (sign_first x (List.mem_of_find?_eq_some hf)).1
        rw [e1] at this
        exact absurd this (by decide)
    rw [this]
    decide
  · rw [(tk_yes e rfl).1]
    unfold opens
    simp only [List.mem_cons, List.not_mem_nil, or_false, not_or] at h4 h5
    simp [h4, h5.1, h5.2]
end
end Go.Proofs.YtaffplmfnincfaaGreatDoor
/- DagChecks: the document's parser: signed. -/
namespace Go.Proofs.YtaffplmfnincfaaGreatDoor
set_option linter.unusedVariables false
open Go.RowKit
theorem szE (W : World) : (W.alloc zE).heap.size = W.heap.size + 1 := by simp
/-- What prim does. -/
def PD (d : Nat) (s : ByteArray) : Prop := ∀ (W : World) (p i : Nat) (e t : Int), RpT W p s i e t → i ≤ s.size → (e = 0 → d ≤ 32 ∧ sgT s (skipB s i) ∉ [(⟨#[45]⟩ : ByteArray), ⟨#[33]⟩]) → Calls Tryz.prog 198 #[.pointer (some ⟨p, 0, none⟩), .int .i64 (d : Int)] W fun r w' => JdQ (Job.od d) s p i e W r w'
set_option maxRecDepth 100000 in
set_option maxHeartbeats 8000000 in
/-- Parser.signed. -/
theorem signed212 {s : ByteArray} {d : Nat} (hs : s.size ≤ 1024) (hd : d ≤ 100) (hP : PD d s) (hS : d ≤ 32 → JD 185 (d + 1) s (Job.od (d + 1))) : JD 185 d s (Job.od d) := by
  intro W p i e t hp hi
  have hb := bW0 W zE
  have hpl := hp.lt
  have hbl := blanks_any _ p s i e t (hp.grow hb) hi (by omega)
  have hfl : Hid (∀ W2 j2, RpT W2 p s j2 e t → Calls Tryz.prog 52 #[.pointer (some ⟨p, 0, none⟩), .int .i64 111, .int .i64 (j2 : Int)] W2 fun r w' => r = .returned (.tuple #[]) ∧ Hid (Fp p W2 w' ∧ ∃ e' t', RpT w' p s j2 e' t' ∧ (e ≠ 0 → e' = e) ∧ (e = 0 → e' = 111))) := fun W2 j2 g => fail_any W2 p s j2 e t 111 j2 g
  have hS2 : d ≤ 32 → ∀ W2 j2 e2 t2, RpT W2 p s j2 e2 t2 → j2 ≤ s.size → Calls Tryz.prog 185 #[.pointer (some ⟨p, 0, none⟩), .int .i64 ((d : Int) + 1)] W2 fun r w' => JdQ (Job.od (d + 1)) s p j2 e2 W2 r w' := fun h W2 j2 e2 t2 h1 h2 => hS h W2 p j2 e2 t2 h1 h2
  have htk : Hid (∀ W2 j2 e2 t2, RpT W2 p s j2 e2 t2 → j2 ≤ s.size → p < W2.heap.size → Calls Tryz.prog 70 #[.pointer (some ⟨p, 0, none⟩), .slice (some ⟨W2.heap.size, 0, none⟩) 2 2] (W2.alloc (.cells #[.string ⟨#[45]⟩, .string ⟨#[33]⟩] 9)) fun r w' => TkQ [⟨#[45]⟩, ⟨#[33]⟩] s p j2 e2 t2 (W2.alloc (.cells #[.string ⟨#[45]⟩, .string ⟨#[33]⟩] 9)) r w') := fun W2 j2 e2 t2 h1 h2 h3 => take64 _ p s j2 e2 t2 (h1.grow (bW0 _ _)) h2 (by omega) W2.heap.size 2 [⟨#[45]⟩, ⟨#[33]⟩] rfl (strL_new W2 [⟨#[45]⟩, ⟨#[33]⟩] (by decide)) (by omega) (by omega) (by decide)
  have hcl := fun (nm : ByteArray) (b : Nat) W2 => rcall_any nm (some ⟨b, 0, none⟩) 1 1 W2
  clear hS hb hp
  by_cases h32 : 32 < d
  · have h32i : (32 : Int) < (d : Int) := by omega
    go_enter Tryz.func185, Tryz.ntmps185
    go_wp2_with (first
      | (go_at_call 51; refine hbl.mono ?_; clear hbl; rintro r wb ⟨rfl, i1, hi1, hi2, hpb, hfb, his⟩; obtain ⟨c0, c1, c2, c3⟩ := hpb.out.cells; have hfj := hfl.out wb i1 hpb.out)
      | (go_at_call 52; refine hfj.mono ?_; clear hfj hfl; rintro r wa ⟨rfl, hA⟩; apply Hid.out))
    obtain ⟨hfa0, ea, ta, hpa, ha1, ha2⟩ := hA.out
    have hfa := hfb.out.trans hfa0
    have hea : e ≠ 0 → ea ≠ 0 := (fun q => by rw [ha1 q]; exact q)
    have hne : ea ≠ 0 := fun q => by
      by_cases q0 : e = 0
      · rw [ha2 q0] at q; omega
      · exact hea q0 q
    clear c0 c1 c2 c3
    have hL : Hid (Fp p (W.alloc zE) (wa.alloc (.cells #[.string ⟨#[45]⟩, .string ⟨#[33]⟩] 9))) := hfa.trans (Fp.of (bW0 wa (.cells #[.string ⟨#[45]⟩, .string ⟨#[33]⟩] 9)))
    have htj := htk.out wa i1 ea ta hpa hi2 (by have := hfa.size; have h9 := szE W; omega)
    unfold Hid
    go_wp2_with (first | (go_at_call 70; refine htj.mono ?_; clear htj; rintro r w2 ⟨v, j2, rfl, hjj, hj2, hp2, hf2, hv⟩; apply Hid.out))
    have hf3 : Hid (Fp p (W.alloc zE) w2) := hL.out.trans hf2.out
    have hz : Hid (∀ w3, Fp p w2 w3 → Bx w3 W.heap.size 62 (.int .i64 0) (.string ⟨#[]⟩) (.int .i64 0) (.int .i64 0) (.slice none 0 0)) := fun w3 h => (bxNew W 62 _ _ _ _ _).fp (hf3.out.trans h) (by omega)
    have hs3 : W.heap.size < w2.heap.size := by have := hf3.out.size; have h9 := szE W; omega
    unfold Hid
    clear hL
    rcases hv with ⟨rfl, hv⟩ | ⟨k1, k2, k3⟩
    · have hc := hP w2 p j2 ea ta hp2.out hj2 (fun q => absurd q hne)
      go_wp2_with (first | (go_at_call 198; refine hc.mono ?_; clear hc; rintro r w3 ⟨k5, n5, x5, y5, a5, m5, c5, rfl, j5, e5, t5, X5, h5⟩; obtain ⟨z0, z1, z2, z3, z4⟩ := (hz.out w3 h5.out.fp).cells; obtain ⟨f0, f1, f2, f3, f4⟩ := (hz.out w3 h5.out.fp).frozen))
      have hdn := jd_out (i := i) (e := e) hpl (hf3.out.trans h5.out.fp) h5.out.rp (by have := h5.out.ge; omega) h5.out.le (fun q => h5.out.er (hea q)) (h5.out.v.more fun b hb => by omega) (Jb := Job.od d) (fun q => .inr ⟨h5.out.er hne, deep_od h32⟩)
      exact ret27 Tryz.results185 rfl hdn.1 ⟨_, _, _, _, _, _, _, rfl, _, _, _, _, hdn.2⟩
    · have he0 := k3.out.1.1
      exact absurd he0 hne
  · have h32i : ¬ (32 : Int) < (d : Int) := by omega
    go_enter Tryz.func185, Tryz.ntmps185
    go_wp2_with (first
      | (go_at_call 51; refine hbl.mono ?_; clear hbl; rintro r wb ⟨rfl, i1, hi1, hi2, hpb, hfb, his⟩; apply Hid.out))
    have hfa := hfb.out
    have hea : e ≠ 0 → e ≠ 0 := (fun q => q)
    have hd32 : d ≤ 32 := by omega
    have hL : Hid (Fp p (W.alloc zE) (wb.alloc (.cells #[.string ⟨#[45]⟩, .string ⟨#[33]⟩] 9))) := hfa.trans (Fp.of (bW0 wb (.cells #[.string ⟨#[45]⟩, .string ⟨#[33]⟩] 9)))
    have htj := htk.out wb i1 e t hpb.out hi2 (by have := hfa.size; have h9 := szE W; omega)
    unfold Hid
    go_wp2_with (first | (go_at_call 70; refine htj.mono ?_; clear htj; rintro r w2 ⟨v, j2, rfl, hjj, hj2, hp2, hf2, hv⟩; apply Hid.out))
    have hf3 : Hid (Fp p (W.alloc zE) w2) := hL.out.trans hf2.out
    have hz : Hid (∀ w3, Fp p w2 w3 → Bx w3 W.heap.size 62 (.int .i64 0) (.string ⟨#[]⟩) (.int .i64 0) (.int .i64 0) (.slice none 0 0)) := fun w3 h => (bxNew W 62 _ _ _ _ _).fp (hf3.out.trans h) (by omega)
    have hs3 : W.heap.size < w2.heap.size := by have := hf3.out.size; have h9 := szE W; omega
    unfold Hid
    clear hL
    rcases hv with ⟨rfl, hv⟩ | ⟨k1, k2, k3⟩
    · have hc := hP w2 p j2 e t hp2.out hj2 (fun q => ⟨hd32, by rw [hv.out.1, skip_idem]; exact hv.out.2 q⟩)
      go_wp2_with (first | (go_at_call 198; refine hc.mono ?_; clear hc; rintro r w3 ⟨k5, n5, x5, y5, a5, m5, c5, rfl, j5, e5, t5, X5, h5⟩; obtain ⟨z0, z1, z2, z3, z4⟩ := (hz.out w3 h5.out.fp).cells; obtain ⟨f0, f1, f2, f3, f4⟩ := (hz.out w3 h5.out.fp).frozen))
      have hdn := jd_out (i := i) (e := e) hpl (hf3.out.trans h5.out.fp) h5.out.rp (by have := h5.out.ge; omega) h5.out.le (fun q => h5.out.er (hea q)) (h5.out.v.more fun b hb => by omega) (Jb := Job.od d) (fun q => by have := h5.out.we q; rw [hv.out.1, skip_idem, his.out, skip_idem] at this; exact this)
      exact ret27 Tryz.results185 rfl hdn.1 ⟨_, _, _, _, _, _, _, rfl, _, _, _, _, hdn.2⟩
    · have he0 := k3.out.1.1
      have hsg : Hid (∀ j5 e5 X5, JobR s (Job.od (d + 1)) j2 j5 e e5 X5 → JobR s (Job.od d) i j5 e e5 (exC v [X5])) := fun j5 e5 X5 g => by
        have h1 := k3.out.2.2.1
        have h2 := k3.out.2.2.2.1
        rw [his.out, skip_idem] at h1 h2
        rw [he0] at g ⊢
        exact JobR.sign hd32 k3.out.2.1 h1 h2 g
      have hc := hS2 hd32 w2 j2 e t hp2.out hj2
      go_wp2_with (first
        | (go_at_call 185; refine hc.mono ?_; clear hc; rintro r w3 ⟨k5, n5, x5, y5, a5, m5, c5, rfl, j5, e5, t5, X5, h5⟩)
        | (go_at_call 71; refine (hcl _ _ _).mono ?_; rintro r w5 ⟨rfl, hb5⟩; have hb6 := (bW0 w3 (.cells #[.int .i64 k5, .string n5, .int .i64 x5, .int .i64 y5, .slice a5 m5 c5] 62)).trans (hb5.mono (by simp)); obtain ⟨z0, z1, z2, z3, z4⟩ := (hz.out w5 (h5.out.fp.trans (Fp.of hb6))).cells; obtain ⟨f0, f1, f2, f3, f4⟩ := (hz.out w5 (h5.out.fp.trans (Fp.of hb6))).frozen))
      have hsz := h5.out.fp.size
      have hV := exC1_V (A := fun b => W.heap.size < b) X5 v _ _ _ _ _ (h5.out.v.more fun b hb => by omega) (by omega)
      have hdn := jd_out (i := i) (e := e) hpl (hf3.out.trans (h5.out.fp.trans (Fp.of hb6))) (h5.out.rp.grow hb6) (by have := h5.out.ge; omega) h5.out.le (fun q => h5.out.er (hea q)) (hV.grow hb5) (hsg.out _ _ _ h5.out.we)
      exact ret27 Tryz.results185 rfl hdn.1 ⟨_, _, _, _, _, _, _, rfl, _, _, _, _, hdn.2⟩
end Go.Proofs.YtaffplmfnincfaaGreatDoor
/- The document's parser: prim. -/
namespace Go.Proofs.YtaffplmfnincfaaGreatDoor
set_option linter.unusedVariables false
open Go.RowKit
/-- A function that tells a value. -/
def ValC (f : Nat) (v : Vl) : Prop := ∀ W : World, Calls Tryz.prog f #[] W fun r w' => ∃ k n : Int, r = .returned (.agg #[.int .i64 k, .int .i64 n]) ∧ Hid (Below W.heap.size W w') ∧ Hid ((⟨k, n⟩ : Vl) = v)
/-- The document's Parse of values: it tells a value and an error. -/
def ParC : Prop := ∀ (u : ByteArray) (W : World), u.size ≤ 1024 → Calls Tryz.prog 213 #[.string u] W fun r w' => ∃ k n er : Int, r = .returned (.tuple #[.agg #[.int .i64 k, .int .i64 n], .int .i64 er]) ∧ Hid (Below W.heap.size W w') ∧ Hid ((er = 0 ∧ parC u = some ⟨k, n⟩) ∨ (er ≠ 0 ∧ parC u = none))
def exZ : Ex := .mk 0 ⟨#[]⟩ zer []
theorem exZ_V (w : World) (A : Nat → Prop) : ExV w A exZ (.agg #[.int .i64 0, .string ⟨#[]⟩, .int .i64 0, .int .i64 0, .slice none 0 0]) := ⟨_, rfl, by unfold exZ Ex.kids kidsV; rfl⟩
/-- A box of two cells. -/
def Bx2 (w : World) (x : Nat) (k n : Int) : Prop := w.heap[x]? = some (.cells #[.int .i64 k, .int .i64 n] 34 (0, 0))
theorem Bx2.cells {w : World} {x : Nat} {k n : Int} (h : Bx2 w x k n) : w.cell? ⟨x, 0, none⟩ = some (.int .i64 k) ∧ w.cell? ⟨x, 1, none⟩ = some (.int .i64 n) := by
  unfold Bx2 at h
  simp [World.cell?, h]
theorem bx2New (w : World) (k n : Int) : Bx2 (w.alloc (.cells #[.int .i64 k, .int .i64 n] 34)) w.heap.size k n := by
  show (w.heap.push _)[w.heap.size]? = _
  simp
theorem Bx2.lt {w : World} {x : Nat} {k n : Int} (h : Bx2 w x k n) : x < w.heap.size := (Array.getElem?_eq_some_iff.1 h).1
theorem Bx2.fp {w w' : World} {x p : Nat} {k n : Int} (h : Bx2 w x k n) (hf : Fp p w w') (hne : x ≠ p) : Bx2 w' x k n := (hf.block x h.lt hne).trans h
theorem Bx2.set {w : World} {x y i : Nat} {k n : Int} {u : Value} (h : Bx2 w x k n) (hne : x ≠ y) : Bx2 (w.setCell ⟨y, i, none⟩ u) x k n := (set_block hne).trans h
theorem Bx.sto {w : World} {x y i : Nat} {T : TypeId} {a b c d e u : Value} (h : Bx w x T a b c d e) (hne : x ≠ y) : Bx (w.setCell ⟨y, i, none⟩ u) x T a b c d e := (set_block hne).trans h
set_option maxRecDepth 100000 in
set_option maxHeartbeats 8000000 in
/-- prim, where there is an error already. -/
theorem primE {s : ByteArray} {d : Nat} (hs : s.size ≤ 1024) (W : World) (p i : Nat) (e t : Int) (hp : RpT W p s i e t) (hi : i ≤ s.size) (he : e ≠ 0) : Calls Tryz.prog 198 #[.pointer (some ⟨p, 0, none⟩), .int .i64 (d : Int)] W fun r w' => JdQ (Job.od d) s p i e W r w' := by
  have hb := bW0 W zE
  have hpl := hp.lt
  have hbl := blanks_any _ p s i e t (hp.grow hb) hi (by omega)
  have hne : (e != 0) = true := bne_iff_ne.2 he
  have hz : Hid (∀ w3, Fp p (W.alloc zE) w3 → Bx w3 W.heap.size 62 (.int .i64 0) (.string ⟨#[]⟩) (.int .i64 0) (.int .i64 0) (.slice none 0 0)) := fun w3 h => (bxNew W 62 _ _ _ _ _).fp h (by omega)
  have he9 : Hid (e ≠ 0) := he
  clear hb hp he
  go_enter Tryz.func198, Tryz.ntmps198
  go_wp2_with (first | (go_at_call 51; refine hbl.mono ?_; clear hbl; rintro r wb ⟨rfl, i1, hi1, hi2, hpb, hfb, his⟩; obtain ⟨c0, c1, c2, c3⟩ := hpb.out.cells; obtain ⟨z0, z1, z2, z3, z4⟩ := (hz.out wb hfb.out).cells; obtain ⟨f0, f1, f2, f3, f4⟩ := (hz.out wb hfb.out).frozen))
  have hdn := jd_out (Jb := Job.od d) (i := i) (e := e) hpl hfb.out hpb.out hi1 hi2 (fun q => q) (exZ_V _ _) (fun q => absurd q he9.out)
  exact ret27 Tryz.results198 rfl hdn.1 ⟨_, _, _, _, _, _, _, rfl, _, _, _, _, hdn.2⟩
end Go.Proofs.YtaffplmfnincfaaGreatDoor
