/- math.Refs of a tree; Texts. -/
import Derived.Test.YtaffplmfnincfaaGreatDoorQmQq
import Derived.Test.YtaffplmfnincfaaGreatDoorSbdQk
import Derived.Test.YtaffplmfnincfaaGreatDoorShm
import Derived.Sort.OwnSorted
import Derived.Lib.RowBridge
import Derived.Deep.RegionHeld3
namespace Go.Proofs.YtaffplmfnincfaaGreatDoor
set_option linter.unusedVariables false
mutual
/-- The names of a tree's refs, as they come. -/
def refsE : Ex → List ByteArray
  | .mk k n v l => (if k = 2 then [n] else []) ++ refsK l
def refsK : List Ex → List ByteArray
  | [] => []
  | t :: r => refsE t ++ refsK r
end
theorem refs_n (v : Vl) : refsE (exN v) = [] := by unfold exN; rw [refsE, if_neg (by decide), refsK]; rfl
theorem refs_r (n : ByteArray) : refsE (exR n) = [n] := by unfold exR; rw [refsE, if_pos rfl, refsK]; rfl
theorem refs_1 (n : ByteArray) (x : Ex) : refsE (exC n [x]) = refsE x := by unfold exC; rw [refsE, if_neg (by decide), refsK, refsK]; simp
theorem refs_2 (n : ByteArray) (x y : Ex) : refsE (exC n [x, y]) = refsE x ++ refsE y := by unfold exC; rw [refsE, if_neg (by decide), refsK, refsK, refsK]; simp
end Go.Proofs.YtaffplmfnincfaaGreatDoor
namespace Go.Proofs.YtaffplmfnincfaaGreatDoor
set_option linter.unusedVariables false
open Go.RowKit
set_option maxHeartbeats 4000000 in
/-- Texts of two lists that are the same. -/
theorem texts_any (w : World) (l : List ByteArray) (a a' : Option Addr) (n c c' : Nat) (hl : l.length ≤ 1000000) (h1 : Txs w (.slice a n c) l) (h2 : Txs w (.slice a' n c') l) : Calls Tryz.prog 11 #[.slice a n c, .slice a' n c'] w fun e w' => e = .returned (.bool true) ∧ Below w.heap.size w w' := by
  have hn := h1.len
  have hk : Hid (∀ i, i < n → ∃ b o b' o' t, a = some ⟨b, o, none⟩ ∧ a' = some ⟨b', o', none⟩ ∧ w.cell? ⟨b, o + i, none⟩ = some (.string t) ∧ w.cell? ⟨b', o' + i, none⟩ = some (.string t)) := fun i hi => by
    obtain ⟨b, o, e1, g1⟩ := tx_at h1 i (by rw [← hn]; exact hi)
    obtain ⟨b', o', e2, g2⟩ := tx_at h2 i (by rw [← hn]; exact hi)
    exact ⟨b, o, b', o', _, e1, e2, g1, g2⟩
  have hnl : n ≤ 1000000 := by rw [hn]; exact hl
  clear h1 h2 hn hl
  go_enter Tryz.func11, Tryz.ntmps11
  go_wp2
  go_loopw [5] (fun i wr => ∃ kk : Nat, kk ≤ n ∧ i = .int .i64 kk ∧ Hid (Below w.heap.size w wr)) (fun i _ => n - (intOf i).toNat)
  case atStart => exact ⟨0, Nat.zero_le _, rfl, Below.refl _ _⟩
  case round =>
    obtain ⟨kk, hkk, rfl, hbr⟩ := hrel
    by_cases hlt : kk < n
    · have hki : (kk : Int) < (n : Int) := by omega
      obtain ⟨b, o, b', o', t, rfl, rfl, g1, g2⟩ := hk.out kk hlt
      have d1 : ∀ q : Bel wr, q.W.cell? ⟨b, o + kk, none⟩ = some (.string t) := fun q => q.cell ((hbr.out.cell (p := ⟨b, o + kk, none⟩) (World.block_lt_of_cell? w _ g1)).trans g1)
      have d2 : ∀ q : Bel wr, q.W.cell? ⟨b', o' + kk, none⟩ = some (.string t) := fun q => q.cell ((hbr.out.cell (p := ⟨b', o' + kk, none⟩) (World.block_lt_of_cell? w _ g2)).trans g2)
      clear g1 g2 hk
      go_wp2
      refine wp_region_bel (by kernel_rfl) (by kernel_rfl) ?_
      repeat (go_big_quiet_step (fail))
      refine wpQuiet_nil ?_
      rintro W ⟨q, rfl⟩
      have hq := q.h
      go_wp2
      go_roundw
      case rel => exact ⟨kk + 1, by omega, by go_num, hbr.out.trans (hq.mono hbr.out.size)⟩
      case measure => simp [intOf]; omega
    · obtain rfl : kk = n := by omega
      have hki : ¬ (kk : Int) < (kk : Int) := by omega
      go_wp2
      go_ret
      exact ⟨rfl, hbr.out⟩
theorem refsK_take (l : List Ex) (i : Nat) (hi : i < l.length) : refsK (l.take (i + 1)) = refsK (l.take i) ++ refsE (l.getD i ex0) := by
  induction l generalizing i with
  | nil => simp at hi
  | cons t r ih =>
    cases i with
    | zero => simp [refsK]
    | succ i =>
      rw [List.take_succ_cons, refsK, List.take_succ_cons, refsK, ih i (by simpa using hi), List.append_assoc]
      simp
theorem refsK_all (l : List Ex) : refsK (l.take l.length) = refsK l := by rw [List.take_length]
/-- What refsOf does. -/
def RfC (x : Ex) : Prop := ∀ (w : World) (B : Nat) (v : Value) (l : List ByteArray) (k : Int) (n : ByteArray) (vk vn : Int) (a : Option Addr) (m c : Nat), OwnT w B v l → ExV w (fun q => q < B) x (.agg #[.int .i64 k, .string n, .int .i64 vk, .int .i64 vn, .slice a m c]) → B ≤ w.heap.size → l.length + (refsE x).length ≤ 1000000 →
  Calls Tryz.prog 48 #[v, .agg #[.int .i64 k, .string n, .int .i64 vk, .int .i64 vn, .slice a m c]] w fun e w' => ∃ a' n' c', e = .returned (.slice a' n' c') ∧ OwnT w' B (.slice a' n' c') (l ++ refsE x) ∧ Hid (Below B w w')
set_option maxRecDepth 100000 in
set_option maxHeartbeats 8000000 in
theorem refs_step {x : Ex} (hk : ∀ i, i < x.kids.length → RfC (x.kids.getD i ex0)) (hkl : x.kids.length ≤ 1000) : RfC x := by
  intro w B v l k n vk vn a m c ho hv hB hlen
  obtain ⟨p1, p2, p3, p4, p5⟩ := hv.parts
  have hml : m ≤ 1000 := by rw [p5]; exact hkl
  obtain ⟨l1, hl1⟩ : ∃ l1, Hid (l1 = l ++ (if k = 2 then [n] else [])) := ⟨_, rfl⟩
  have hfin : Hid (l ++ refsE x = l1 ++ refsK (x.kids.take m)) := by
    show _ = _
    rw [hl1.out, p5, refsK_all, p1, p2]
    obtain ⟨kk, nn, vv, kd⟩ := x
    rw [refsE, Ex.kind, Ex.name, Ex.kids]
    simp
  have hlen1 : l1.length + (refsK x.kids).length ≤ 1000000 := by
    have := congrArg List.length hfin.out
    rw [p5, refsK_all, List.length_append, List.length_append] at this
    omega
  rw [hfin.out]
  obtain ⟨av, cv, rfl⟩ := ho.shape
  have hkid : Hid (∀ i, i < m → ∀ W v', Below B w W → OwnT W B v' (l1 ++ refsK (x.kids.take i)) → ∃ b o k1 n1 vk1 vn1 a1 m1 c1, a = some ⟨b, o, none⟩ ∧ At5 W b (o + i * 5) k1 n1 vk1 vn1 a1 m1 c1 ∧ Calls Tryz.prog 48 #[v', .agg #[.int .i64 k1, .string n1, .int .i64 vk1, .int .i64 vn1, .slice a1 m1 c1]] (W.alloc (.cells #[.int .i64 k1, .string n1, .int .i64 vk1, .int .i64 vn1, .slice a1 m1 c1] 62)) fun e w' => ∃ a' n' c', e = .returned (.slice a' n' c') ∧ OwnT w' B (.slice a' n' c') (l1 ++ refsK (x.kids.take (i + 1))) ∧ Hid (Below B w w')) := fun i hi W v' hb hov => by
    obtain ⟨b, o, h1, hb1, k1, n1, vk1, vn1, a1, m1, c1, h2, h3⟩ := hv.kid i hi
    have hi' : i < x.kids.length := by rw [← p5]; exact hi
    refine ⟨b, o, k1, n1, vk1, vn1, a1, m1, c1, h1, h2.low hb hb1, ?_⟩
    have hba : Below B W (W.alloc (.cells #[.int .i64 k1, .string n1, .int .i64 vk1, .int .i64 vn1, .slice a1 m1 c1] 62)) := (Below.refl _ W).alloc (Nat.le_trans hB hb.size) _
    have hb2 := hb.trans hba
    have htk := refsK_take x.kids i hi'
    have hle : (refsK (x.kids.take (i + 1))).length ≤ (refsK x.kids).length := by
      have hs : ∀ (l : List Ex) (j : Nat), (refsK (l.take j)).length ≤ (refsK l).length := by
        intro l
        induction l with
        | nil => intro j; simp
        | cons t r ih =>
          intro j
          cases j with
          | zero => simp [refsK]
          | succ j => rw [List.take_succ_cons, refsK, refsK, List.length_append, List.length_append]; have := ih j; omega
      exact hs _ _
    refine (hk i hi' _ B v' _ k1 n1 vk1 vn1 a1 m1 c1 (hov.alloc _) (h3.low hb2) (Nat.le_trans hB hb2.size) (by rw [htk] at hle; rw [List.length_append] at hle ⊢; omega)).mono ?_
    rintro e w' ⟨a', n', c', rfl, g1, g2⟩
    refine ⟨a', n', c', rfl, ?_, hb2.trans g2.out⟩
    rw [htk, ← List.append_assoc]
    exact g1
  have hb0 : Below B w (w.alloc (.cells #[.int .i64 k, .string n, .int .i64 vk, .int .i64 vn, .slice a m c] 62)) := (Below.refl _ w).alloc hB _
  by_cases h2 : k = 2
  · have hk2 : (k == 2) = true := by rw [beq_iff_eq]; exact h2
    have hl2 : Hid (l1 = l ++ [n]) := by show l1 = _; rw [hl1.out, if_pos h2]
    have ho2 := (ho.alloc (.cells #[.int .i64 k, .string n, .int .i64 vk, .int .i64 vn, .slice a m c] 62)).alloc (.cells #[.string n] 9)
    have hs1 : Txs ((w.alloc (.cells #[.int .i64 k, .string n, .int .i64 vk, .int .i64 vn, .slice a m c] 62)).alloc (.cells #[.string n] 9)) (.slice (some ⟨w.heap.size + 1, 0, none⟩) 1 1) [n] := by
      have := sls_one (E := encS) (w.alloc (.cells #[.int .i64 k, .string n, .int .i64 vk, .int .i64 vn, .slice a m c] 62)) n #[.string n] 9 rfl
      simpa using this
    have hb1 : Below B w ((w.alloc (.cells #[.int .i64 k, .string n, .int .i64 vk, .int .i64 vn, .slice a m c] 62)).alloc (.cells #[.string n] 9)) := hb0.alloc (Nat.le_trans hB hb0.size) _
    have hB1 := Nat.le_trans hB hb1.size
    have hxb : Hid (∀ w2, ((w.alloc (.cells #[.int .i64 k, .string n, .int .i64 vk, .int .i64 vn, .slice a m c] 62)).alloc (.cells #[.string n] 9)).grownBy w2 (Value.slice av l.length cv).ownBlock → w2.cell? ⟨w.heap.size, 4, none⟩ = some (.slice a m c)) := fun w2 hg => by
      have h1 := (bxNew w 62 (.int .i64 k) (.string n) (.int .i64 vk) (.int .i64 vn) (.slice a m c)).grow (bW0 (w.alloc (.cells #[.int .i64 k, .string n, .int .i64 vk, .int .i64 vn, .slice a m c] 62)) (.cells #[.string n] 9))
      have h2 : Bx w2 w.heap.size 62 (.int .i64 k) (.string n) (.int .i64 vk) (.int .i64 vn) (.slice a m c) := (hg.block w.heap.size h1.lt (fun e => by have := (ho.lt _ e.symm).2; omega)).trans h1
      exact h2.cells.2.2.2.2
    have hll : l.length + [n].length ≤ 1000000000 := by simp; omega
    have hrr : Hid (refsK (x.kids.take 0) = []) := by show _ = _; simp [refsK]
    clear hl1 hv hk hkl hlen hfin hlen1 p1 p2 p3 p4 p5 h2 ho hb0
    generalize x.kids = KK at *
    go_enter Tryz.func48, Tryz.ntmps48
    go_wp2_with (first | (at_builtin; refine appR TS rfl (.tmp 10) (.tmp 13) rfl B _ _ l [n] rfl rfl ho2 hs1 hB1 hll ?_; intro v2 w2 ho3 hg3; have hb3 := hb1.trans (ho2.grows hB1 hg3); have x4 := hxb.out w2 hg3; clear hxb; obtain ⟨a3, c3, hv3⟩ := ho3.shape; rw [← hl2.out] at ho3; obtain ⟨n3, hn3⟩ : ∃ n3, n3 = (l ++ [n]).length := ⟨_, rfl⟩; rw [← hn3] at hv3; clear hn3; subst hv3))
    go_loopw [0, 18] (fun v i wr => ∃ (kk : Nat) (a' : Option Addr) (n' c' : Nat), kk ≤ m ∧ i = .int .i64 kk ∧ v = .slice a' n' c' ∧ Hid (OwnT wr B v (l1 ++ refsK (KK.take kk))) ∧ Hid (Below B w wr)) (fun _ i _ => m - (intOf i).toNat)
    case atStart => exact ⟨0, a3, _, c3, Nat.zero_le _, rfl, rfl, by rw [hrr.out, List.append_nil]; exact ho3, hb3⟩
    case round =>
      obtain ⟨kk, a', n', c', hkk, rfl, rfl, hov, hbr⟩ := hrel
      by_cases hlt : kk < m
      · have hki : (kk : Int) < (m : Int) := by omega
        obtain ⟨b, o, k1, n1, vk1, vn1, a1, m1, c1, rfl, hA, hC⟩ := hkid.out kk hlt wr _ hbr.out hov.out
        obtain ⟨e0, e1, e2, e3, e4⟩ := hA
        clear hkid
        go_wp2_with (first
          | (go_at_call 48; refine hC.mono ?_; clear hC; rintro e w4 ⟨a4, n4, c4, rfl, ho4, hb4⟩))
        go_roundw
        case rel => exact ⟨kk + 1, a4, n4, c4, by omega, by go_num, rfl, ho4, hb4⟩
        case measure => simp [intOf]; omega
      · have hkm : Hid (kk = m) := by show kk = m; omega
        have hki : ¬ (kk : Int) < (m : Int) := by omega
        go_wp2
        go_ret
        rw [hkm.out] at hov
        exact ⟨a', n', c', rfl, hov.out, hbr⟩
  · have hk2 : (k == 2) = false := by rw [beq_eq_false_iff_ne]; exact h2
    have hl2 : l1 = l := by rw [hl1.out, if_neg h2]; simp
    have ho2 := ho.alloc (.cells #[.int .i64 k, .string n, .int .i64 vk, .int .i64 vn, .slice a m c] 62)
    have hrr : Hid (refsK (x.kids.take 0) = []) := by show _ = _; simp [refsK]
    clear hl1 hv hk hkl hlen hfin hlen1 p1 p2 p3 p4 p5 h2 ho
    subst hl2
    generalize x.kids = KK at *
    go_enter Tryz.func48, Tryz.ntmps48
    go_wp2
    go_loopw [0, 18] (fun v i wr => ∃ (kk : Nat) (a' : Option Addr) (n' c' : Nat), kk ≤ m ∧ i = .int .i64 kk ∧ v = .slice a' n' c' ∧ Hid (OwnT wr B v (l1 ++ refsK (KK.take kk))) ∧ Hid (Below B w wr)) (fun _ i _ => m - (intOf i).toNat)
    case atStart => exact ⟨0, av, _, cv, Nat.zero_le _, rfl, rfl, by rw [hrr.out, List.append_nil]; exact ho2, hb0⟩
    case round =>
      obtain ⟨kk, a', n', c', hkk, rfl, rfl, hov, hbr⟩ := hrel
      by_cases hlt : kk < m
      · have hki : (kk : Int) < (m : Int) := by omega
        obtain ⟨b, o, k1, n1, vk1, vn1, a1, m1, c1, rfl, hA, hC⟩ := hkid.out kk hlt wr _ hbr.out hov.out
        obtain ⟨e0, e1, e2, e3, e4⟩ := hA
        clear hkid
        go_wp2_with (first
          | (go_at_call 48; refine hC.mono ?_; clear hC; rintro e w4 ⟨a4, n4, c4, rfl, ho4, hb4⟩))
        go_roundw
        case rel => exact ⟨kk + 1, a4, n4, c4, by omega, by go_num, rfl, ho4, hb4⟩
        case measure => simp [intOf]; omega
      · have hkm : Hid (kk = m) := by show kk = m; omega
        have hki : ¬ (kk : Int) < (m : Int) := by omega
        go_wp2
        go_ret
        rw [hkm.out] at hov
        exact ⟨a', n', c', rfl, hov.out, hbr⟩
end Go.Proofs.YtaffplmfnincfaaGreatDoor
/- math.Refs. -/
namespace Go.Proofs.YtaffplmfnincfaaGreatDoor
set_option linter.unusedVariables false
open Go.RowKit Go.Sort
theorem refs_wf {x : Ex} (h : WF parC x) : RfC x := by
  induction h with
  | n _ => exact refs_step (fun i hi => absurd hi (by simp [exN, Ex.kids])) (by simp [exN, Ex.kids])
  | r _ => exact refs_step (fun i hi => absurd hi (by simp [exR, Ex.kids])) (by simp [exR, Ex.kids])
  | @t n x _ _ ih =>
    refine refs_step (fun i hi => ?_) (by simp [exC, Ex.kids])
    obtain rfl : i = 0 := by simp [exC, Ex.kids] at hi; exact hi
    exact ih
  | @f n x _ _ ih =>
    refine refs_step (fun i hi => ?_) (by simp [exC, Ex.kids])
    obtain rfl : i = 0 := by simp [exC, Ex.kids] at hi; exact hi
    exact ih
  | @o n x y l _ _ _ _ ih1 ih2 =>
    refine refs_step (fun i hi => ?_) (by simp [exC, Ex.kids])
    have : i = 0 ∨ i = 1 := by simp [exC, Ex.kids] at hi; omega
    rcases this with rfl | rfl
    · exact ih1
    · exact ih2
def lsB (L : List ByteArray) : List (List UInt8) := L.map fun s => s.data.toList
def blS (l : List (List UInt8)) : List ByteArray := l.map bB
theorem lsB_enc (L : List ByteArray) : (lsB L).map encStr = flat encS L := by
  unfold lsB flat
  rw [List.map_map]
  induction L with
  | nil => rfl
  | cons a L ih => rw [List.map_cons, List.map_cons, List.flatten_cons, ih]; rfl
theorem blS_lsB (L : List ByteArray) : blS (lsB L) = L := by
  unfold blS lsB
  rw [List.map_map]
  induction L with
  | nil => rfl
  | cons a L ih => rw [List.map_cons, ih]; rfl
theorem lsB_blS (l : List (List UInt8)) : lsB (blS l) = l := by
  unfold blS lsB
  rw [List.map_map]
  induction l with
  | nil => rfl
  | cons a L ih => rw [List.map_cons, ih]; rfl
def srtS (L : List ByteArray) : List ByteArray := blS ((lsB L).mergeSort fun x y => decide (x ≤ y))
def cmpS' (L : List ByteArray) : List ByteArray := blS (Lib.compact (lsB L))
theorem sortT {w : World} {B : Nat} {L : List ByteArray} {a : Option Addr} {n c : Nat} (h : OwnT w B (.slice a n c) L) (hB : B ≤ w.heap.size) (hl : L.length ≤ 1000000) : Calls Tryz.prog 38 #[.slice a n c] w fun e w' => e = .returned (.tuple #[]) ∧ OwnT w' B (.slice a n c) (srtS L) ∧ Below B w w' := by
  have hlen : (lsB L).length = L.length := by simp [lsB]
  rcases h.2 with ⟨hv, h0⟩ | ⟨g, cap, cur, hv, hg, hb, h1, h2, h3, h4⟩
  · injection hv with e1 e2 e3
    subst e1 e2 e3
    obtain rfl : L = [] := List.length_eq_zero_iff.1 h0
    refine (Tryz.slices_Sort_string_none none 0 w).mono ?_
    rintro e w' ⟨rfl, rfl⟩
    have e : srtS [] = [] := by simp [srtS, lsB, blS]
    rw [e]
    exact ⟨rfl, h, Below.refl _ _⟩
  · injection hv with e1 e2 e3
    subst e1 e2 e3
    have h4' : cur.toList.take (lsB L).length = (lsB L).map encStr := by rw [lsB_enc, hlen, ← h4]; simp [encS]
    have := Tryz.slices_Sort_string g 0 c (lsB L) w (holds_of_block hb h4') (Array.getElem?_eq_some_iff.1 hb).1 (by omega)
    rw [hlen] at this
    refine this.mono ?_
    rintro e w' ⟨rfl, n, os, rfl⟩
    refine ⟨rfl, ?_, (Below.refl B w).grown (grownBy_sorted _) hB (fun k hk => by injection hk with hk; rw [← hk]; exact hg)⟩
    have hs := ownsRow_sorted (n := n) (os := os) (ts := (lsB L).mergeSort fun x y => decide (x ≤ y)) (ss := lsB L) (by simp) hg hb (by rw [hlen]; exact h1) h2 (by simpa [encS] using h3)
    unfold OwnT OwnS srtS
    rw [← lsB_enc, lsB_blS]
    have hl2 : (blS ((lsB L).mergeSort fun x y => decide (x ≤ y))).length = (lsB L).length := by simp [blS]
    rw [hl2]
    rw [hlen] at hs ⊢
    exact hs
theorem compT {w : World} {B : Nat} {L : List ByteArray} {a : Option Addr} {n c : Nat} (h : OwnT w B (.slice a n c) L) (hB : B ≤ w.heap.size) (hl : L.length ≤ 1000000) : Calls Tryz.prog 49 #[.slice a n c] w fun e w' => e = .returned (.slice a (cmpS' L).length c) ∧ Txs w' (.slice a (cmpS' L).length c) (cmpS' L) ∧ Below B w w' := by
  have hlen : (lsB L).length = L.length := by simp [lsB]
  rcases h.2 with ⟨hv, h0⟩ | ⟨g, cap, cur, hv, hg, hb, h1, h2, h3, h4⟩
  · injection hv with e1 e2 e3
    subst e1 e2 e3
    obtain rfl : L = [] := List.length_eq_zero_iff.1 h0
    refine (Tryz.slices_Compact_string_empty none 0 w).mono ?_
    rintro e w' ⟨rfl, rfl⟩
    exact ⟨rfl, sls_nil _, Below.refl _ _⟩
  · injection hv with e1 e2 e3
    subst e1 e2 e3
    have h4' : cur.toList.take (lsB L).length = (lsB L).map encStr := by rw [lsB_enc, hlen, ← h4]; simp [encS]
    have hh := holds_of_block hb h4'
    have := Tryz.slices_Compact_string g 0 c (lsB L) w hh (by omega) (by rw [hlen]; exact h1)
    rw [hlen] at this
    have hcl : (Lib.compact (lsB L)).length = (cmpS' L).length := by simp [cmpS', blS]
    rw [hcl] at this
    have hle := Lib.compact_length_le (lsB L)
    refine this.mono ?_
    rintro e w' ⟨rfl, q, rfl⟩
    have hsz : (Lib.compact (lsB L) ++ List.replicate (L.length - (cmpS' L).length) []).toArray.size = (lsB L).toArray.size := by
      rw [← hcl]; simp; omega
    refine ⟨rfl, ?_, ?_⟩
    · refine ⟨_, _, rfl, ⟨(fun h => by cases h), ?_⟩, .inr ⟨g, 0, rfl, fun t ht => ?_⟩⟩
      · rw [← hcl]; omega
      · have hp := cell?_putRow encStr (Sort.ahead w q) g 0 (lsB L).toArray _ hh hsz t (by simp; omega)
        intro i u hu
        cases i with
        | succ i => simp [encS] at hu
        | zero =>
          have e1 : (Lib.compact (lsB L) ++ List.replicate (L.length - (cmpS' L).length) []).toArray[t]! = (Lib.compact (lsB L)).getD t [] := by
            have ht' : t < (Lib.compact (lsB L)).length := by rw [hcl]; exact ht
            simp [List.getElem!_eq_getElem?_getD, List.getElem?_append_left ht', List.getD_eq_getElem?_getD]
            rfl
          have e2 : (cmpS' L).getD t ⟨#[]⟩ = bB ((Lib.compact (lsB L)).getD t []) := by
            have ht' : t < (Lib.compact (lsB L)).length := by rw [hcl]; exact ht
            unfold cmpS' blS
            rw [List.getD_eq_getElem?_getD, List.getElem?_map, List.getD_eq_getElem?_getD, List.getElem?_eq_getElem ht']
            rfl
          rw [e1] at hp
          have hu2 : u = .string ((cmpS' L).getD t ⟨#[]⟩) := by
            have : ([Value.string ((cmpS' L).getD t ⟨#[]⟩)] : List Value)[0]? = some u := hu
            simpa using this.symm
          rw [hu2, e2]
          have h5 : 0 + t * encS.k + 0 = 0 + t := by show 0 + t * 1 + 0 = _; omega
          rw [h5]
          exact hp
    · have hg2 := (grownBy_sorted (w := w) (g := g) (n := q) (os := #[]) (Lib.compact (lsB L) ++ List.replicate (L.length - (cmpS' L).length) []).toArray)
      rw [grow_empty] at hg2
      exact (Below.refl B w).grown hg2 hB (fun k hk => by injection hk with hk; rw [← hk]; exact hg)
/-- What Refs tells. -/
def refsR (x : Ex) : List ByteArray := cmpS' (srtS (refsE x))
theorem srt_len (L : List ByteArray) : (srtS L).length = L.length := by simp [srtS, blS, lsB]
/-- The block is a new one. -/
def FreshA (base : Nat) (a : Option Addr) : Prop := ∀ ad, a = some ad → base ≤ ad.block
theorem fresh_own {w : World} {base : Nat} {a : Option Addr} {n c : Nat} {L : List ByteArray} (h : OwnT w base (.slice a n c) L) : FreshA base a := fun ad e => by
  subst e
  rcases h.2 with ⟨e, _⟩ | ⟨g, cap, cur, e, hb, _⟩
  · cases e
  · cases e
    exact hb
theorem FreshA.mono {b0 b1 : Nat} {a : Option Addr} (h : FreshA b1 a) (hb : b0 ≤ b1) : FreshA b0 a := fun ad e => Nat.le_trans hb (h ad e)
set_option maxRecDepth 100000 in
set_option maxHeartbeats 4000000 in
/-- math.Refs. -/
theorem refs17f (w : World) {x : Ex} (hW : WF parC x) (hl : (refsE x).length ≤ 1000000) (k : Int) (n : ByteArray) (vk vn : Int) (a : Option Addr) (m c : Nat) (hv : ExV w (fun q => q < w.heap.size) x (.agg #[.int .i64 k, .string n, .int .i64 vk, .int .i64 vn, .slice a m c])) :
    Calls Tryz.prog 29 #[.agg #[.int .i64 k, .string n, .int .i64 vk, .int .i64 vn, .slice a m c]] w fun e w' => ∃ a' n' c', e = .returned (.slice a' n' c') ∧ Hid (Txs w' (.slice a' n' c') (refsR x) ∧ Below w.heap.size w w' ∧ FreshA w.heap.size a') := by
  have hb0 := bW0 w (.cells #[.int .i64 k, .string n, .int .i64 vk, .int .i64 vn, .slice a m c] 62)
  have hrf := refs_wf hW _ w.heap.size (.slice none 0 0) [] k n vk vn a m c (OwnS.nil _ _) (hv.low hb0) hb0.size (by simpa using hl)
  have hso : Hid (∀ W a' n' c', OwnT W w.heap.size (.slice a' n' c') ([] ++ refsE x) → Below w.heap.size w W → Calls Tryz.prog 38 #[.slice a' n' c'] W fun e w' => e = .returned (.tuple #[]) ∧ OwnT w' w.heap.size (.slice a' n' c') (srtS (refsE x)) ∧ Below w.heap.size w w') := fun W a' n' c' h1 h2 =>
    (sortT h1 h2.size (by simpa using hl)).mono fun e w' h => ⟨h.1, h.2.1, h2.trans h.2.2⟩
  have hco : Hid (∀ W a' n' c', OwnT W w.heap.size (.slice a' n' c') (srtS (refsE x)) → Below w.heap.size w W → Calls Tryz.prog 49 #[.slice a' n' c'] W fun e w' => ∃ n2, e = .returned (.slice a' n2 c') ∧ Hid (Txs w' (.slice a' n2 c') (refsR x) ∧ Below w.heap.size w w' ∧ FreshA w.heap.size a')) := fun W a' n' c' h1 h2 =>
    (compT h1 h2.size (by rw [srt_len]; exact hl)).mono fun e w' h => ⟨_, h.1, h.2.1, h2.trans h.2.2, fresh_own h1⟩
  clear hl hv
  go_enter Tryz.func29, Tryz.ntmps29
  go_wp2_with (first
    | (go_at_call 48; refine hrf.mono ?_; clear hrf; rintro e w1 ⟨a1, n1, c1, rfl, ho1, hb1⟩; have hca := hso.out w1 a1 n1 c1 ho1 (hb0.trans hb1.out); clear ho1)
    | (go_at_call 38; refine hca.mono ?_; clear hca; rintro e w2 ⟨rfl, ho2, hb2⟩; have hcb := hco.out w2 a1 n1 c1 ho2 hb2; clear ho2)
    | (go_at_call 49; refine hcb.mono ?_; clear hcb; rintro e w3 ⟨n2, rfl, ho3⟩))
  go_ret
  exact ⟨_, _, _, rfl, ho3⟩
end Go.Proofs.YtaffplmfnincfaaGreatDoor
