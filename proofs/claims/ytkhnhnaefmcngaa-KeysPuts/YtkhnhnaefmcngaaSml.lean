/- The contracts of small, Same, Begins, Range. -/
import Derived.Test.YtkhnhnaefmcngaaLiv
import Derived.SizedLaws
import Derived.Laws.StructEq
import Derived.WalkSmall
namespace Go.Proofs.Ytkhnhnaefmcngaa
set_option linter.unusedVariables false
open Go.RowKit
/-- The bytes of all texts. -/
def total (l : List Pt) : Nat := (l.map fun p => p.text.size).sum
/-- No text is longer than what may come in. -/
def TxB (l : List Pt) : Prop := ∀ p ∈ l, p.text.size ≤ reachBytes
theorem total_le (l : List Pt) (p : Pt) (h : p ∈ l) : p.text.size ≤ total l := by
  induction l with
  | nil => cases h
  | cons a r ih =>
    simp only [total, List.map_cons, List.sum_cons] at *
    rcases List.mem_cons.1 h with rfl | h
    · omega
    · have := ih h; omega
theorem total_take_succ (l : List Pt) (k : Nat) (h : k < l.length) : total (l.take (k + 1)) = total (l.take k) + (l.getD k pt0).text.size := by
  unfold total
  rw [List.take_succ_eq_append_getElem h, List.map_append, List.sum_append, List.getD_eq_getElem?_getD, List.getElem?_eq_getElem h]
  simp only [List.map_cons, List.map_nil, List.sum_cons, List.sum_nil, Option.getD_some, Nat.add_zero]
theorem total_bound (l : List Pt) (h : TxB l) (k : Nat) : total (l.take k) ≤ k * reachBytes := by
  induction k with
  | zero => simp [total]
  | succ k ih =>
    by_cases hk : k < l.length
    · rw [total_take_succ l k hk, Nat.add_mul]
      have := h _ (getD_mem l pt0 k hk)
      omega
    · rw [List.take_of_length_le (by omega)]
      rw [List.take_of_length_le (by omega)] at ih
      rw [Nat.add_mul]; omega
theorem ret_bool {a b : Bool} (h : a = b) : Ending.returned (.bool a) = .returned (.bool b) := by rw [h]
/-- Is a list small? -/
def smallB (l : List Pt) : Bool := decide (l.length ≤ 20 ∧ total l ≤ 8000)
set_option maxRecDepth 100000 in
set_option maxHeartbeats 2000000 in
theorem small_any (v : Value) (l : List Pt) (w : World) (hv : Pts w v l) (hr : TxB l) (hlen : l.length ≤ 9223372036854775807) : Calls Try.prog 8 #[v] w fun e w' => e = .returned (.bool (smallB l)) ∧ w' = w := by
  have htb := fun k => total_bound l hr k
  unfold TxB reachBytes at hr
  unfold reachBytes at htb
  obtain ⟨a, c, rfl, _, hcell⟩ := hv
  obtain ⟨R, hR⟩ : ∃ R, Hid (R = smallB l) := ⟨_, rfl⟩
  rw [← hR.out]
  have hR2 : Hid (R = decide (l.length ≤ 20 ∧ total l ≤ 8000)) := hR.out
  clear hR
  go_enter Try.func8, Try.ntmps8
  go_wp2
  go_loop [3, 4] (fun n i => ∃ k : Nat, k ≤ l.length ∧ k ≤ 21 ∧ i = .int .i64 k ∧ n = .int .i64 (total (l.take k))) (fun _ i => l.length - (intOf i).toNat)
  case atStart => exact ⟨0, Nat.zero_le _, by omega, rfl, rfl⟩
  case round =>
    obtain ⟨k, hk, hk2, rfl, rfl⟩ := hrel
    have ht := htb k
    by_cases hlt : k < l.length ∧ k ≤ 20
    · obtain ⟨hlt, h20⟩ := hlt
      rcases hcell with hcell | ⟨b, o, rfl, hcell⟩
      · rw [hcell] at hlt; simp at hlt
      have hc := (hcell k hlt).2.2
      have hs := hr _ (getD_mem l pt0 k hlt)
      have HT : Hid (total (l.take (k + 1)) = total (l.take k) + (l.getD k pt0).text.size) := total_take_succ l k hlt
      generalize (l.getD k pt0).text = s at hc hs HT
      generalize total (l.take k) = T at ht HT
      clear htb hr hcell
      have hT : T ≤ 20 * 140737488351232 := Nat.le_trans ht (Nat.mul_le_mul_right _ h20)
      have hki : (k : Int) < (l.length : Int) := by omega
      have h20i : (k : Int) ≤ 20 := by omega
      go_wp2
      go_round
      case rel => exact ⟨k + 1, by omega, by omega, by go_num, by rw [HT.out]; go_num⟩
      case measure => simp [intOf]; omega
    · by_cases hall : k = l.length
      · subst hall
        rw [List.take_of_length_le (Nat.le_refl _)] at ht ⊢
        generalize total l = T at ht hR2
        clear htb hr hcell
        have hkd : ¬ (l.length : Int) < (l.length : Int) := by omega
        by_cases h20 : l.length ≤ 20
        · have h20d : decide ((l.length : Int) ≤ 20) = true := by simp; omega
          obtain rfl : R = decide ((T : Int) ≤ 8000) := hR2.out.trans (by
            by_cases hT : T ≤ 8000
            · rw [decide_eq_true (show l.length ≤ 20 ∧ T ≤ 8000 from ⟨h20, hT⟩), decide_eq_true (by omega)]
            · rw [decide_eq_false (fun h => hT h.2), decide_eq_false (by omega)])
          go_wp2
          go_ret
          exact ⟨rfl, rfl⟩
        · have h20d : decide ((l.length : Int) ≤ 20) = false := by simp; omega
          obtain rfl : R = false := hR2.out.trans (by simp; omega)
          go_wp2
          go_ret
          exact ⟨rfl, rfl⟩
      · obtain rfl : R = false := hR2.out.trans (by simp; omega)
        clear htb hr hcell
        have h21 : k = 21 := by omega
        subst h21
        have hlt2 : (21 : Int) < (l.length : Int) := by omega
        have h20d : decide ((l.length : Int) ≤ 20) = false := by simp; omega
        generalize total (l.take 21) = T at ht
        go_wp2
        go_ret
        exact ⟨rfl, rfl⟩
/-- What Same tells. -/
def SameQ (l m : List Pt) (w : World) (e : Ending) (w' : World) : Prop := ∃ B, e = .returned (.bool B) ∧ (B = true ↔ l = m) ∧ Below w.heap.size w w'
theorem take_getD (l : List Pt) (k : Nat) (h : k < l.length) : l.take (k + 1) = l.take k ++ [l.getD k pt0] := by
  rw [List.take_succ_eq_append_getElem h]; simp [h]
set_option maxRecDepth 100000 in
set_option maxHeartbeats 2000000 in
theorem same_some (l m : List Pt) (b o b2 o2 c c2 : Nat) (w : World) (hl : l.length ≤ 1000000000) (hlm : l.length = m.length)
    (h1 : ∀ t, t < l.length → PtAt w b (o + t * 3) (l.getD t pt0)) (h2 : ∀ t, t < m.length → PtAt w b2 (o2 + t * 3) (m.getD t pt0)) :
    Calls Try.prog 16 #[.slice (some ⟨b, o, none⟩) l.length c, .slice (some ⟨b2, o2, none⟩) l.length c2] w fun e w' => SameQ l m w e w' := by
  obtain ⟨n, hn⟩ : ∃ n, Hid (n = l.length) := ⟨_, rfl⟩
  have hnl : Hid (n = m.length) := hn.out.trans hlm
  rw [← hn.out] at hl h1 ⊢
  rw [← hnl.out] at h2
  clear hlm
  go_enter Try.func16, Try.ntmps16
  go_wp2
  go_loopw [5] (fun i wr => ∃ k d : Nat, k ≤ n ∧ i = .int .i64 k ∧ Hid (l.take k = m.take k) ∧ wr = w.drewN d) (fun i _ => n - (intOf i).toNat)
  case atStart => exact ⟨0, 0, Nat.zero_le _, rfl, rfl, rfl⟩
  case round =>
    obtain ⟨k, d, hk, rfl, htk, rfl⟩ := hrel
    by_cases hlt : k < n
    · obtain ⟨x0, x1, x2⟩ := h1 k hlt
      obtain ⟨y0, y1, y2⟩ := h2 k hlt
      have hki : (k : Int) < (n : Int) := by omega
      clear h1 h2
      obtain ⟨p, hp1⟩ : ∃ p, Hid (l.getD k pt0 = p) := ⟨_, rfl⟩
      obtain ⟨q, hp2⟩ : ∃ q, Hid (m.getD k pt0 = q) := ⟨_, rfl⟩
      rw [hp1.out] at x0 x1 x2
      rw [hp2.out] at y0 y1 y2
      by_cases hpq : p = q
      · subst hpq
        have hst : Hid (l.take (k + 1) = m.take (k + 1)) := by
          show _ = _
          rw [take_getD l k (by rw [← hn.out]; exact hlt), take_getD m k (by rw [← hnl.out]; exact hlt), hp1.out, hp2.out, htk.out]
        obtain ⟨k1, n1, t1⟩ := p
        simp only [] at x0 x1 x2 y0 y1 y2
        go_wp2
        go_quiet (fail)
        go_wp2
        refine ⟨⟨k + 1, _, by omega, by go_num, hst, rfl⟩, ?_⟩
        simp [intOf]; omega
      · have hne : Hid (l ≠ m) := fun e => hpq (by rw [← hp1.out, ← hp2.out, e])
        obtain ⟨k1, n1, t1⟩ := p
        obtain ⟨k2, n2, t2⟩ := q
        simp only [] at x0 x1 x2 y0 y1 y2
        have hb3 : ((k1 == k2) = false) ∨ ((k1 == k2) = true ∧ (n1 == n2) = false) ∨ ((k1 == k2) = true ∧ (n1 == n2) = true ∧ (t1.toList == t2.toList) = false) := by
          cases e1 : (k1 == k2) with
          | false => exact .inl rfl
          | true =>
            cases e2 : (n1 == n2) with
            | false => exact .inr (.inl ⟨rfl, rfl⟩)
            | true =>
              cases e3 : (t1.toList == t2.toList) with
              | false => exact .inr (.inr ⟨rfl, rfl, rfl⟩)
              | true =>
                exfalso
                exact hpq (by rw [show k1 = k2 by simpa using e1, show n1 = n2 by simpa using e2, toList_eq e3])
        clear hpq
        rcases hb3 with e1 | ⟨e1, e2⟩ | ⟨e1, e2, e3⟩
        all_goals
          go_wp2
          go_quiet (fail)
          go_wp2
          go_ret
          refine ⟨false, rfl, ⟨(fun h => by cases h), fun h => absurd h hne.out⟩, ?_⟩
          exact below_drewN (below_drewN (Below.refl _ _) _) _
    · obtain rfl : k = n := by omega
      have hki : ¬ (k : Int) < (k : Int) := by omega
      have heq : Hid (l = m) := by
        have h := htk.out
        rw [List.take_of_length_le (by rw [← hn.out]; omega), List.take_of_length_le (by rw [← hnl.out]; omega)] at h
        exact h
      clear h1 h2
      go_wp2
      go_ret
      exact ⟨true, rfl, ⟨fun _ => heq.out, fun _ => rfl⟩, below_drewN (Below.refl _ _) _⟩
set_option maxRecDepth 100000 in
set_option maxHeartbeats 1000000 in
theorem same_len (n m c c2 : Nat) (a a2 : Option Addr) (w : World) (hn : n ≤ 9223372036854775807) (hm : m ≤ 9223372036854775807) (h : n ≠ m) : Calls Try.prog 16 #[.slice a n c, .slice a2 m c2] w fun e w' => e = .returned (.bool false) ∧ w' = w := by
  have hd : ((n : Int) == (m : Int)) = false := by simp; omega
  have hd2 : ((n : Int) != (m : Int)) = true := by simp; omega
  go_enter Try.func16, Try.ntmps16
  go_wp2
  go_ret
  exact ⟨rfl, rfl⟩
set_option maxRecDepth 100000 in
set_option maxHeartbeats 1000000 in
theorem same_none (c c2 : Nat) (a a2 : Option Addr) (w : World) : Calls Try.prog 16 #[.slice a 0 c, .slice a2 0 c2] w fun e w' => e = .returned (.bool true) ∧ w' = w := by
  go_enter Try.func16, Try.ntmps16
  go_wp2
  refine wp_loop_rounds 1 ?_
  rw [rounds_succ]
  go_wp2
  go_ret
  exact ⟨rfl, rfl⟩
/-- klaxonref07.Same. -/
theorem same_any (v u : Value) (l m : List Pt) (w : World) (hv : Pts w v l) (hu : Pts w u m) (hl : l.length ≤ 1000000000) (hm : m.length ≤ 1000000000) : Calls Try.prog 16 #[v, u] w fun e w' => SameQ l m w e w' := by
  obtain ⟨a, c, rfl, _, h1⟩ := hv
  obtain ⟨a2, c2, rfl, _, h2⟩ := hu
  by_cases hlm : l.length = m.length
  · rcases h1 with rfl | ⟨b, o, rfl, h1⟩
    · have : m = [] := List.length_eq_zero_iff.1 hlm.symm
      subst this
      refine (same_none c c2 a a2 w).mono ?_
      rintro e w' ⟨rfl, rfl⟩
      exact ⟨true, rfl, ⟨fun _ => rfl, fun _ => rfl⟩, Below.refl _ _⟩
    · rcases h2 with rfl | ⟨b2, o2, rfl, h2⟩
      · have : l = [] := List.length_eq_zero_iff.1 hlm
        subst this
        refine (same_none c c2 _ a2 w).mono ?_
        rintro e w' ⟨rfl, rfl⟩
        exact ⟨true, rfl, ⟨fun _ => rfl, fun _ => rfl⟩, Below.refl _ _⟩
      · rw [← hlm]
        exact same_some l m b o b2 o2 c c2 w hl hlm h1 h2
  · refine (same_len _ _ c c2 a a2 w (by omega) (by omega) hlm).mono ?_
    rintro e w' ⟨rfl, rfl⟩
    exact ⟨false, rfl, ⟨(fun h => by cases h), fun h => absurd (congrArg List.length h) hlm⟩, Below.refl _ _⟩
theorem elem22 : Try.prog.underlying 22 = some (.slice (Try.prog.elem 22)) := by kernel_rfl
theorem size22 (W : World) : (sizeOf (Try.prog.elem 22)).run Try.prog W = .ok 3 W := by kernel_rfl
theorem len_pts {w : World} {v : Value} {l : List Pt} (hv : Pts w v l) (W : World) : (Builtin.len_ #[22] 3 #[v]).run Try.prog W = .ok (.int .i64 (l.length : Nat)) W := by
  obtain ⟨a, c, rfl, _, _⟩ := hv
  rw [run_len_slice W 22 3 a l.length c elem22]; rfl
/-- v[:k] of parts, k within the length. -/
theorem pts_to {w : World} {v : Value} {l : List Pt} (hv : Pts w v l) (k : Nat) (hk : k ≤ l.length) :
    ∃ v2, (∀ W, (Instr.slice 22 v none (some (.int .i64 (k : Int))) none).run Try.prog W = .ok v2 W) ∧ Pts w v2 (l.take k) := by
  obtain ⟨a, c, rfl, ⟨hn, hc⟩, h1⟩ := hv
  refine ⟨sliced a 0 k c 3, fun W => ?_, ⟨if c = 0 then a else a.map (·.add (0 * 3)), c - 0, by simp only [sliced, List.length_take, Nat.min_eq_left hk, Nat.sub_zero], ⟨fun e => ?_, by simp; omega⟩, ?_⟩⟩
  · rw [run_slice_h W 22 a l.length c elem22 .i64 k (by omega) (by omega), size22]; simp [Result.andThen]
  · by_cases h : c = 0
    · omega
    · rw [if_neg h] at e
      simp at e; have := hn e; omega
  · rcases h1 with rfl | ⟨b, o, rfl, hr⟩
    · exact .inl (by simp)
    · by_cases h : k = 0
      · exact .inl (by simp [h])
      · refine .inr ⟨b, o, ?_, fun t ht => ?_⟩
        · rw [if_neg (by omega)]; simp [add_at]
        · rw [List.length_take] at ht
          have := hr t (by omega)
          have e : (l.take k).getD t pt0 = l.getD t pt0 := by simp [List.getD, show t < k by omega]
          rw [e]; exact this
/-- What Begins tells. -/
def BeginsQ (l m : List Pt) (w : World) (e : Ending) (w' : World) : Prop := ∃ B, e = .returned (.bool B) ∧ (B = true ↔ ∃ r, l = m ++ r) ∧ Below w.heap.size w w'
set_option maxRecDepth 100000 in
set_option maxHeartbeats 1000000 in
theorem begins_any (v u : Value) (l m : List Pt) (w : World) (hv : Pts w v l) (hu : Pts w u m) (hl : l.length ≤ 1000000000) (hm : m.length ≤ 1000000000) : Calls Try.prog 21 #[v, u] w fun e w' => BeginsQ l m w e w' := by
  have hl1 := len_pts hv
  have hl2 := len_pts hu
  by_cases hlm : m.length ≤ l.length
  · obtain ⟨v2, hr2, hp2⟩ := pts_to hv m.length hlm
    have hs := same_any v2 u (l.take m.length) m w hp2 hu (by rw [List.length_take]; omega) hm
    have hiff : Hid (l.take m.length = m ↔ ∃ r, l = m ++ r) := by
      constructor
      · intro h
        refine ⟨l.drop m.length, ?_⟩
        conv => lhs; rw [← List.take_append_drop m.length l, h]
      · rintro ⟨r, rfl⟩
        simp
    have hln : (m.length : Int) ≤ (l.length : Int) := by omega
    have hd : decide ((m.length : Int) ≤ (l.length : Int)) = true := by simpa using hln
    generalize hn : l.length = n at *
    generalize hm2 : m.length = n2 at *
    replace hn : Hid _ := hn
    replace hm2 : Hid _ := hm2
    clear hv hu hp2
    by_cases hnn : n2 = n
    · subst hnn
      go_enter Try.func21, Try.ntmps21
      go_wp2_with (go_at_call 16; refine hs.mono ?_; rintro e w2 ⟨B, rfl, hB, hb2⟩)
      go_ret
      exact ⟨B, rfl, hB.trans hiff.out, hb2⟩
    · have hnn2 : n2 < n := by omega
      go_enter Try.func21, Try.ntmps21
      go_wp2_with (go_at_call 16; refine hs.mono ?_; rintro e w2 ⟨B, rfl, hB, hb2⟩)
      go_ret
      exact ⟨B, rfl, hB.trans hiff.out, hb2⟩
  · have hd : decide ((m.length : Int) ≤ (l.length : Int)) = false := by simp; omega
    have hno : Hid (¬ ∃ r, l = m ++ r) := by
      rintro ⟨r, rfl⟩
      simp at hlm
    clear hv hu
    generalize hn : l.length = n at *
    generalize hm2 : m.length = n2 at *
    replace hn : Hid _ := hn
    replace hm2 : Hid _ := hm2
    go_enter Try.func21, Try.ntmps21
    go_wp2
    go_ret
    exact ⟨false, rfl, ⟨(fun h => by cases h), fun h => absurd h hno.out⟩, Below.refl _ _⟩
/-- Range's second text. -/
def putT (l : List Pt) : ByteArray := if putE l = 0 then strOfNums (keyB l ++ [255]) else ⟨#[]⟩
theorem strOf_append (xs ys : List Int) : strOfNums xs ++ strOfNums ys = strOfNums (xs ++ ys) := by
  apply ByteArray.ext
  rw [ByteArray.data_append]
  simp [strOfNums]
set_option maxRecDepth 100000 in
set_option maxHeartbeats 1000000 in
theorem range_any (v : Value) (l : List Pt) (w : World) (hv : Pts w v l) (hi : Ins l) (hl : l.length ≤ 9223372036854775807) :
    Calls Try.prog 14 #[v] w fun e w' => e = .returned (.tuple #[.string (putS l), .string (putT l), .int .i64 (putE l)]) ∧ Below w.heap.size w w' := by
  have hput := put_any v l w hv hi hl
  have hin := putE_in l
  by_cases hE : putE l = 0
  · have hok := putE_oks hi hE
    have hT : putT l = putS l ++ ⟨#[255]⟩ := by
      rw [putT, if_pos hE, putS_ok hok, ← strOf_append]; rfl
    have hsz : (putS l).size ≤ 10000 := by
      rw [putS_ok hok]
      have h1 := keyB_len hok.2
      have h2 := hok.1
      have : (strOfNums (keyB l)).size = (keyB l).length := by show Array.size _ = _; simp
      omega
    rw [hE] at hput ⊢
    rw [hT]
    generalize putS l = P at *
    have hcat : ¬ 9223372036854775807 < P.size + 1 := by omega
    clear hT hE hok hin
    go_enter Try.func14, Try.ntmps14
    go_wp2_with (go_at_call 10; refine hput.mono ?_; rintro e w2 ⟨rfl, hb2⟩)
    go_ret3
    exact ⟨rfl, hb2⟩
  · have hP : putS l = ⟨#[]⟩ := putS_bad hE
    have hT : putT l = ⟨#[]⟩ := by rw [putT, if_neg hE]
    have hEn : (putE l != 0) = true := by simpa using hE
    rw [hP] at hput ⊢
    rw [hT]
    generalize putE l = E at *
    clear hP hT
    go_enter Try.func14, Try.ntmps14
    go_wp2_with (go_at_call 10; refine hput.mono ?_; rintro e w2 ⟨rfl, hb2⟩)
    go_ret3
    exact ⟨rfl, hb2⟩
end Go.Proofs.Ytkhnhnaefmcngaa
