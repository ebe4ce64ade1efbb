/- Values: the contracts of printNum, Print. -/
import Derived.Test.YtfbiaffdfolbgaaGreatDoorVs
namespace Go.Proofs.YtfbiaffdfolbgaaGreatDoor
set_option linter.unusedVariables false
open Go.RowKit
theorem bOf_cons (c : Int) (l : List Int) : bOf (c :: l) = bOf [c] ++ bOf l := bOf_append [c] l
theorem cut_from (B : ByteArray) : B.extract 1 B.size = ⟨(B.data.toList.drop 1).toArray⟩ := by
  apply ByteArray.ext
  rw [ByteArray.data_extract]
  have e : B.size = B.data.size := rfl
  rw [e]
  generalize B.data = A
  apply Array.ext'
  rw [Array.toList_extract, List.extract_eq_take_drop]
  show List.take (A.size - 1) (List.drop 1 A.toList) = List.drop 1 A.toList
  exact List.take_of_length_le (by simp)
theorem cut1 (c : Int) (l : List Int) : (bOf (c :: l)).extract 1 (bOf (c :: l)).size = bOf l := by
  rw [cut_from]
  simp [bOf, u8s]
set_option maxRecDepth 100000 in
set_option maxHeartbeats 1000000 in
theorem printNum_any (n : Int) (h1 : -1000000000000000 ≤ n) (h2 : n ≤ 1000000000000000) (w : World) (hG : G w) : Calls Tryz.prog 43 #[.int .i64 n] w fun e w' => e = .returned (.string (txtS ⟨1, n⟩)) ∧ Below w.heap.size w w' := by
  have hs : ∀ W, Calls Tryz.prog 74 #[.int .i64 n] W fun e w' => e = .returned (.int .u64 (n.natAbs : Int)) ∧ Below W.heap.size W w' := fun W => (size_any n W h1 h2).mono fun e w' ⟨h, hw⟩ => ⟨h, by rw [hw]; exact Below.refl _ _⟩
  obtain ⟨N, hN⟩ : ∃ N, Hid (N = n.natAbs) := ⟨_, rfl⟩
  rw [← hN.out] at hs
  have hNb : N ≤ 1000000000000000 := by rw [hN.out]; omega
  obtain ⟨q, hq⟩ : ∃ q, Hid (q = N / 1000) := ⟨_, rfl⟩
  obtain ⟨r, hr⟩ : ∃ r, Hid (r = N % 1000) := ⟨_, rfl⟩
  have eq : (N : Int) / 1000 = (q : Int) := by have := hq.out; omega
  have er : (N : Int) % 1000 = (r : Int) := by have := hr.out; omega
  have hqb : q ≤ 1000000000000 := by have := hq.out; omega
  have hrb : r < 1000 := by have := hr.out; omega
  have htx : Hid (txtS ⟨1, n⟩ = if n < 0 then bOf [45] ++ (bOf (dec q) ++ bOf (tail r)) else bOf (dec q) ++ bOf (tail r)) := by
    show txtS ⟨1, n⟩ = _
    unfold txtS
    by_cases hn : n < 0
    · simp only [txt, hn, if_true]
      rw [bOf_cons, txtN, bOf_append, ← hN.out, ← hq.out, ← hr.out]
    · simp only [txt, hn, if_false, if_true]
      rw [txtN, bOf_append, ← hN.out, ← hq.out, ← hr.out]
  have hf1 : ∀ W, Below w.heap.size w W → Calls Tryz.prog 73 #[.int .u64 (q : Int), .int .i64 10] W fun e w' => e = .returned (.string (bOf (dec q))) ∧ Below W.heap.size W w' := fun W hW => by
    rw [← digS_dec]; exact fmt_any q (by omega) W (hG.grow hW)
  obtain ⟨D1, eD1⟩ : ∃ D, Hid (D = bOf (dec q)) := ⟨_, rfl⟩
  have hD1 : D1.size ≤ 13 := by rw [eD1.out, bOf_size]; exact dec_len 12 q (by omega)
  rw [← eD1.out] at hf1 htx
  obtain ⟨TX, eTX⟩ : ∃ D, Hid (D = txtS ⟨1, n⟩) := ⟨_, rfl⟩
  rw [← eTX.out] at htx ⊢
  have hB : Below w.heap.size w w := Below.refl _ _
  by_cases hr0 : r = 0
  · subst hr0
    have et : bOf (tail 0) = ⟨#[]⟩ := rfl
    rw [et] at htx
    have hne : ((0 : Int) != 0) = false := rfl
    clear hG eq
    have eq : (N : Int) / 1000 = (q : Int) := by have := hq.out; omega
    by_cases hn : n < 0
    · obtain rfl : TX = bOf [45] ++ D1 := by rw [htx.out, if_pos hn]; apply ByteArray.ext; simp
      go_enter Tryz.func43, Tryz.ntmps43
      go_wp2_with (first | (go_at_call 74; refine (hs _).mono ?_; rintro e w2 ⟨rfl, hb2⟩; replace hB := hB.trans (hb2.mono hB.size)) | (go_at_call 73; refine (hf1 _ hB).mono ?_; rintro e w2 ⟨rfl, hb2⟩; replace hB := hB.trans (hb2.mono hB.size)))
      go_ret
      exact ⟨rfl, hB⟩
    · obtain rfl : TX = D1 := by rw [htx.out, if_neg hn]; apply ByteArray.ext; simp
      go_enter Tryz.func43, Tryz.ntmps43
      go_wp2_with (first | (go_at_call 74; refine (hs _).mono ?_; rintro e w2 ⟨rfl, hb2⟩; replace hB := hB.trans (hb2.mono hB.size)) | (go_at_call 73; refine (hf1 _ hB).mono ?_; rintro e w2 ⟨rfl, hb2⟩; replace hB := hB.trans (hb2.mono hB.size)))
      go_ret
      exact ⟨rfl, hB⟩
  · have hf2 : ∀ W, Below w.heap.size w W → Calls Tryz.prog 73 #[.int .u64 (1000 + (r : Int)), .int .i64 10] W fun e w' => e = .returned (.string (bOf (dec (1000 + r)))) ∧ Below W.heap.size W w' := fun W hW => by
      have e : (1000 + (r : Int)) = ((1000 + r : Nat) : Int) := by omega
      rw [← digS_dec, e]; exact fmt_any (1000 + r) (by omega) W (hG.grow hW)
    rw [dec_three hrb] at hf2
    have hsl := cut1 49 (digs3 r)
    have hsz : (bOf (49 :: digs3 r)).size = 4 := by rw [bOf_size]; rfl
    rw [hsz] at hsl
    have htr : ∀ W, Calls Tryz.prog 75 #[.string (bOf (digs3 r)), .string ⟨#[48]⟩] W fun e w' => e = .returned (.string (bOf (frac r))) ∧ Below W.heap.size W w' := fun W => by
      have h := Tryz.strings_TrimRight_one (bOf (digs3 r)) 48 (by decide) W (by rw [bOf_size]; simp [digs3])
      have e : (bOf (digs3 r)).data.toList = u8s (digs3 r) := by simp [bOf]
      rw [e, trim_frac hr0 hrb] at h
      exact h.mono fun e w' ⟨h, hw⟩ => ⟨h, by rw [hw]; exact Below.refl _ _⟩
    obtain ⟨F, eF⟩ : ∃ D, Hid (D = bOf (frac r)) := ⟨_, rfl⟩
    have hF : F.size ≤ 3 := by rw [eF.out, bOf_size]; exact (frac_len r).2
    rw [← eF.out] at htr
    have et : bOf (tail r) = ⟨#[46]⟩ ++ F := by rw [tail, if_neg hr0, bOf_cons, eF.out]; rfl
    rw [et] at htx
    generalize bOf (digs3 r) = E3 at *
    generalize bOf (49 :: digs3 r) = D4 at *
    have hne : ((r : Int) != 0) = true := by simpa using hr0
    clear hG et
    by_cases hn : n < 0
    · obtain rfl : TX = ⟨#[45]⟩ ++ (D1 ++ (⟨#[46]⟩ ++ F)) := by rw [htx.out, if_pos hn]; rfl
      go_enter Tryz.func43, Tryz.ntmps43
      go_wp2_with (first | (go_at_call 74; refine (hs _).mono ?_; rintro e w2 ⟨rfl, hb2⟩; replace hB := hB.trans (hb2.mono hB.size)) | (go_at_call 73; with_reducible refine (hf1 _ hB).mono ?_; rintro e w2 ⟨rfl, hb2⟩; replace hB := hB.trans (hb2.mono hB.size)) | (go_at_call 73; with_reducible refine (hf2 _ hB).mono ?_; rintro e w2 ⟨rfl, hb2⟩; replace hB := hB.trans (hb2.mono hB.size)) | (go_at_call 75; with_reducible refine (htr _).mono ?_; rintro e w2 ⟨rfl, hb2⟩; replace hB := hB.trans (hb2.mono hB.size)))
      go_ret
      exact ⟨rfl, hB⟩
    · obtain rfl : TX = D1 ++ (⟨#[46]⟩ ++ F) := by rw [htx.out, if_neg hn]
      go_enter Tryz.func43, Tryz.ntmps43
      go_wp2_with (first | (go_at_call 74; refine (hs _).mono ?_; rintro e w2 ⟨rfl, hb2⟩; replace hB := hB.trans (hb2.mono hB.size)) | (go_at_call 73; with_reducible refine (hf1 _ hB).mono ?_; rintro e w2 ⟨rfl, hb2⟩; replace hB := hB.trans (hb2.mono hB.size)) | (go_at_call 73; with_reducible refine (hf2 _ hB).mono ?_; rintro e w2 ⟨rfl, hb2⟩; replace hB := hB.trans (hb2.mono hB.size)) | (go_at_call 75; with_reducible refine (htr _).mono ?_; rintro e w2 ⟨rfl, hb2⟩; replace hB := hB.trans (hb2.mono hB.size)))
      go_ret
      exact ⟨rfl, hB⟩
/-- What Print tells. -/
def prS (v : Vl) : ByteArray := if IsV v then txtS v else ⟨#[]⟩
set_option maxRecDepth 100000 in
set_option maxHeartbeats 1000000 in
theorem print_any (v : Vl) (w : World) (hG : G w) : Calls Tryz.prog 32 #[vlV v] w fun e w' => e = .returned (.string (prS v)) ∧ Below w.heap.size w w' := by
  have ha := vlNew w v
  have hB : Below (w.alloc (vlO v)).heap.size (w.alloc (vlO v)) (w.alloc (vlO v)) := Below.refl _ _
  have hi := fun W => isValue_b v W
  by_cases hv : IsV v
  · rw [isB_of hv] at hi
    have e : prS v = txtS v := by rw [prS, if_pos hv]
    rw [e]; clear e
    rcases hv.cases with ⟨n, rfl, h1, h2⟩ | rfl | rfl | rfl | rfl
    · have hp : ∀ W, Below (w.alloc (vlO ⟨1, n⟩)).heap.size (w.alloc (vlO ⟨1, n⟩)) W → Calls Tryz.prog 43 #[.int .i64 n] W fun e w' => e = .returned (.string (txtS ⟨1, n⟩)) ∧ Below W.heap.size W w' := fun W h => printNum_any n h1 h2 W (hG.grow ((bW0 w _).trans (h.mono (bW0 w _).size)))
      generalize txtS ⟨1, n⟩ = T at *
      clear hv hG
      unfold vlV at *
      go_enter Tryz.func32, Tryz.ntmps32
      go_wp2_with (first | (go_at_call 40; with_reducible refine (hi _).mono ?_; rintro e w2 ⟨rfl, hb2⟩; replace hB := hB.trans (hb2.mono hB.size); obtain ⟨a0, a1⟩ := (ha.grow hB).cells) | (go_at_call 43; with_reducible refine (hp _ hB).mono ?_; rintro e w2 ⟨rfl, hb2⟩; replace hB := hB.trans (hb2.mono hB.size); obtain ⟨a0, a1⟩ := (ha.grow hB).cells))
      go_ret
      exact ⟨rfl, (bW0 w _).trans (hB.mono (by simp))⟩
    all_goals
      clear hv hG
      unfold vlV at *
      go_enter Tryz.func32, Tryz.ntmps32
      go_wp2_with (first | (go_at_call 40; with_reducible refine (hi _).mono ?_; rintro e w2 ⟨rfl, hb2⟩; replace hB := hB.trans (hb2.mono hB.size); obtain ⟨a0, a1⟩ := (ha.grow hB).cells))
      go_ret
      exact ⟨rfl, (bW0 w _).trans (hB.mono (by simp))⟩
  · have e : prS v = ⟨#[]⟩ := by rw [prS, if_neg hv]
    rw [e]; clear e
    have e2 : isB v = false := decide_eq_false hv
    rw [e2] at hi
    clear hv hG e2
    unfold vlV at *
    go_enter Tryz.func32, Tryz.ntmps32
    go_wp2_with (first | (go_at_call 40; with_reducible refine (hi _).mono ?_; rintro e w2 ⟨rfl, hb2⟩; replace hB := hB.trans (hb2.mono hB.size); obtain ⟨a0, a1⟩ := (ha.grow hB).cells))
    go_ret
    exact ⟨rfl, (bW0 w _).trans (hB.mono (by simp))⟩
theorem below_bytes (w : World) (t : ByteArray) : Below w.heap.size w (Lib.bytesWorld w 5 t) := Lib.bytesWorld_below w 5 t
theorem ba_len (s : ByteArray) : s.data.toList.length = s.size := Array.length_toList
theorem ba_of (l : List UInt8) : (⟨l.toArray⟩ : ByteArray).size = l.length := by show l.toArray.size = _; simp
theorem cut_len (s : List UInt8) : (Lib.cut s [46]).1.length ≤ s.length ∧ (Lib.cut s [46]).2.1.length ≤ s.length := by
  unfold Lib.cut
  split
  · simp; omega
  · simp
set_option maxRecDepth 100000 in
set_option maxHeartbeats 1000000 in
theorem thousandths_any (s : ByteArray) (w : World) (hG : G w) (hs : s.size ≤ 1000000) : Calls Tryz.prog 41 #[.string s] w fun e w' => e = .returned (.int .i64 (thou s.data.toList)) ∧ Below w.heap.size w w' := by
  obtain ⟨⟨m, hm⟩, _, ⟨t1, p1, hv1⟩, ⟨t2, p2, hv2⟩⟩ := id hG
  have hc : Calls Tryz.prog 71 #[.string s, .string ⟨#[46]⟩] w fun e w' => e = .returned (.tuple #[.string ⟨(Lib.cut s.data.toList [46]).1.toArray⟩, .string ⟨(Lib.cut s.data.toList [46]).2.1.toArray⟩, .bool (Lib.cut s.data.toList [46]).2.2]) ∧ Below w.heap.size w w' :=
    (Tryz.strings_Cut s ⟨#[46]⟩ m w (by omega) hm).mono fun e w' ⟨h, n, hw⟩ => ⟨h, by rw [hw]; exact below_drewN (Below.refl _ _) n⟩
  obtain ⟨l1, l2⟩ := cut_len s.data.toList
  have hsz := ba_len s
  rw [hsz] at l1 l2
  obtain ⟨X, hX⟩ : ∃ X : ByteArray, Hid (X.data.toList = thouX s.data.toList) := ⟨⟨(thouX s.data.toList).toArray⟩, by simp [Hid]⟩
  have hth : Hid (thou s.data.toList = match Lib.parseIntB 64 X.data.toList with
    | .ok v => v
    | _ => 0) := by rw [hX.out]; rfl
  obtain ⟨T, hT⟩ : ∃ T, Hid (T = thou s.data.toList) := ⟨_, rfl⟩
  rw [← hT.out] at hth ⊢
  obtain ⟨WH, eWH⟩ : ∃ x : ByteArray, Hid (x = ⟨(Lib.cut s.data.toList [46]).1.toArray⟩) := ⟨_, rfl⟩
  obtain ⟨RS, eRS⟩ : ∃ x : ByteArray, Hid (x = ⟨(Lib.cut s.data.toList [46]).2.1.toArray⟩) := ⟨_, rfl⟩
  have lW : WH.size ≤ s.size := by rw [eWH.out, ba_of]; exact l1
  have lR : RS.size ≤ s.size := by rw [eRS.out, ba_of]; exact l2
  rw [← eWH.out, ← eRS.out] at hc
  generalize (Lib.cut s.data.toList [46]).2.2 = B at hc
  have eX : WH ++ (RS ++ ⟨#[48, 48, 48]⟩).extract 0 3 = X := by
    have h : X = ⟨X.data.toList.toArray⟩ := by simp
    rw [h, hX.out, eWH.out, eRS.out]
    apply ByteArray.ext
    apply Array.ext'
    simp only [ByteArray.data_append, ByteArray.data_extract, Array.toList_append, Array.toList_extract, List.extract_eq_take_drop, thouX, List.drop_zero, Nat.sub_zero]
  have h6 : (RS ++ ⟨#[48, 48, 48]⟩).size = RS.size + 3 := ByteArray.size_append
  have hx3 : ((RS ++ ⟨#[48, 48, 48]⟩).extract 0 3).size = 3 := by
    rw [ByteArray.size_extract, h6]; omega
  have hXs : X.size ≤ 1000003 := by
    rw [← eX, ByteArray.size_append, hx3]; omega
  clear hX eWH eRS hT l1 l2 hsz
  cases hp : Lib.parseIntB 64 X.data.toList with
  | ok v =>
    rw [hp] at hth
    obtain rfl : T = v := hth.out
    have hpi : ∀ W, Below w.heap.size w W → Calls Tryz.prog 72 #[.string X, .int .i64 10, .int .i64 64] W fun e w' => e = .returned (.tuple #[.int .i64 T, .nilIface]) ∧ Below W.heap.size W w' := fun W hW =>
      (Tryz.strconv_ParseInt_10_at64_ok X (by omega) T hp W).mono fun e w' ⟨h, hw⟩ => ⟨h, by
        rcases hw with hw | ⟨t, hw⟩
        · rw [hw]; exact Below.refl _ _
        · rw [hw]; exact below_bytes W t⟩
    clear hp hth hG hm hv1 hv2
    go_enter Tryz.func41, Tryz.ntmps41
    go_wp2_with (first | (go_at_call 71; refine hc.mono ?_; rintro e w2 ⟨rfl, hb2⟩) | (go_at_call 72; refine (hpi _ hb2).mono ?_; rintro e w3 ⟨rfl, hb3⟩))
    go_ret
    exact ⟨rfl, hb2.trans (hb3.mono hb2.size)⟩
  | «syntax» =>
    rw [hp] at hth
    obtain rfl : T = 0 := hth.out
    have hpi : ∀ W, Below w.heap.size w W → Calls Tryz.prog 72 #[.string X, .int .i64 10, .int .i64 64] W fun e w' => ∃ N, e = .returned (.tuple #[.int .i64 0, .iface 102 (.pointer (some ⟨N, 0, none⟩))]) ∧ Below W.heap.size W w' := fun W hW =>
      (Tryz.strconv_ParseInt_10_at64_syntax_var X (by omega) hp t1 p1 W (var_grow hv1 hW)).mono fun e w' ⟨N, h, _, _, hb⟩ => ⟨N, h, hb⟩
    clear hp hth hG hm hv1 hv2
    go_enter Tryz.func41, Tryz.ntmps41
    go_wp2_with (first | (go_at_call 71; refine hc.mono ?_; rintro e w2 ⟨rfl, hb2⟩) | (go_at_call 72; refine (hpi _ hb2).mono ?_; rintro e w3 ⟨N, rfl, hb3⟩))
    go_ret
    exact ⟨rfl, hb2.trans (hb3.mono hb2.size)⟩
  | range =>
    rw [hp] at hth
    obtain rfl : T = 0 := hth.out
    obtain ⟨S, hS⟩ : ∃ S, Hid (S = Lib.intSat 64 X.data.toList) := ⟨_, rfl⟩
    have hpi : ∀ W, Below w.heap.size w W → Calls Tryz.prog 72 #[.string X, .int .i64 10, .int .i64 64] W fun e w' => ∃ N, e = .returned (.tuple #[.int .i64 S, .iface 102 (.pointer (some ⟨N, 0, none⟩))]) ∧ Below W.heap.size W w' := fun W hW => by
      rw [hS.out]
      exact (Tryz.strconv_ParseInt_10_at64_range_var X (by omega) hp t2 p2 W (var_grow hv2 hW)).mono fun e w' ⟨N, h, _, _, hb⟩ => ⟨N, h, hb⟩
    clear hp hth hG hm hv1 hv2
    go_enter Tryz.func41, Tryz.ntmps41
    go_wp2_with (first | (go_at_call 71; refine hc.mono ?_; rintro e w2 ⟨rfl, hb2⟩) | (go_at_call 72; refine (hpi _ hb2).mono ?_; rintro e w3 ⟨N, rfl, hb3⟩))
    go_ret
    exact ⟨rfl, hb2.trans (hb3.mono hb2.size)⟩
end Go.Proofs.YtfbiaffdfolbgaaGreatDoor
