/-
  Proved here: 'klaxonlaw09.LabelsSets' (P9.8), called with any list of labels, any number and any second list, in any memory, returns true, and its arguments read afterwards as they read before: Make of any order of labels is the same set, and Key and Compare of two sets tell whether they are the same. No condition beyond the row's own (each slice and string within the reach that every row states).
-/
import Derived.Test.YtckchabcnmkbeaaRows
import Derived.WalkKit
import Derived.ProofKit
import Derived.OpenShut
import Derived.ShutString
import Derived.ChangeOld
import Derived.Below
import Derived.SizedLaws
import Derived.Test.YtckchabcnmkbeaaPk
namespace Go.Proofs.Ytckchabcnmkbeaa.labelsSets
open Go.ChangeShapes Go.WideShapes Go.ChangeAt Go.RowKit
open Go.ChangeMaps (open_string shut_string)
set_option linter.unusedVariables false
theorem own : ownKnob Try.prog.godebug = none := by kernel_rfl
theorem laidOut : laidOutB Try.prog = true := by kernel_rfl
/-- The labels from place r on, and then those ahead of it. -/
def rotL (l : List Lb) (r : Nat) : List Lb := l.drop r ++ l.take r
theorem rotL_perm (l : List Lb) (r : Nat) : l.Perm (rotL l r) := by
  unfold rotL
  have h := List.perm_append_comm (l₁ := l.take r) (l₂ := l.drop r)
  rw [List.take_append_drop] at h
  exact h
theorem rotL_len (l : List Lb) (r : Nat) : (rotL l r).length = l.length := (rotL_perm l r).length_eq.symm
theorem rotL_get (l : List Lb) (r k : Nat) (hr : r < l.length) (hk : k < l.length) : (rotL l r).getD k lb0 = l.getD ((k + r) % l.length) lb0 := by
  unfold rotL
  rw [List.getD_eq_getElem?_getD, List.getD_eq_getElem?_getD]
  by_cases h : k < l.length - r
  · rw [List.getElem?_append_left (by rw [List.length_drop]; exact h), List.getElem?_drop, Nat.mod_eq_of_lt (by omega), Nat.add_comm r k]
  · rw [List.getElem?_append_right (by rw [List.length_drop]; omega), List.length_drop, List.getElem?_take_of_lt (by omega)]
    have : (k + r) % l.length = k + r - l.length := by
      rw [Nat.mod_eq_sub_mod (by omega), Nat.mod_eq_of_lt (by omega)]
    rw [this, show k - (l.length - r) = k + r - l.length by omega]
theorem LbsR.perm {l m : List Lb} (h : LbsR l) (p : l.Perm m) : LbsR m := fun a ha => h a (p.mem_iff.2 ha)
set_option maxRecDepth 100000 in
set_option maxHeartbeats 4000000 in
theorem walk_out (v : Value) (l : List Lb) (x : Int) (u : Value) (m : List Lb) (w : World) (hv : Lbs w v l) (hr : LbsR l) (hL : l.length ≤ 140737488351232) (hu : Lbs w u m) (hm : LbsR m) (hM : m.length ≤ 140737488351232)
    (h : smallB l = false ∨ (smallB l = true ∧ setB m = false) ∨ (smallB l = true ∧ setB m = true ∧ x < 0)) :
    Calls Try.prog 6 #[v, .int .i64 x, u] w fun e w' => e = .returned (.bool true) ∧ Below w.heap.size w w' := by
  have hlive := fun W => live_ok W
  have hsm := small_any v l w hv hr (by omega)
  have hset : ∀ W, Below w.heap.size w W → Calls Try.prog 16 #[u] W fun e w' => e = .returned (.bool (setB m)) ∧ Below W.heap.size W w' := fun W h => set_any _ m W (hu.grow h) hm (by omega)
  rcases h with h1 | ⟨h1, h2⟩ | ⟨h1, h2, h3⟩
  · rw [h1] at hsm
    clear hset hv hu
    go_enter Try.func6, Try.ntmps6
    go_wp2_with (first
      | (go_at_call 9; refine hsm.mono ?_; rintro e w1 ⟨rfl, hb1⟩)
      | (go_at_call 10; refine (hlive _).mono ?_; rintro e w3 ⟨rfl, hb3⟩))
    go_ret
    exact ⟨rfl, hb1.trans (hb3.mono hb1.size)⟩
  · rw [h1] at hsm
    rw [h2] at hset
    clear hv hu
    go_enter Try.func6, Try.ntmps6
    go_wp2_with (first
      | (go_at_call 9; refine hsm.mono ?_; rintro e w1 ⟨rfl, hb1⟩)
      | (go_at_call 16; refine (hset _ hb1).mono ?_; rintro e w2 ⟨rfl, hb2⟩; have hB2 := hb1.trans (hb2.mono hb1.size))
      | (go_at_call 10; refine (hlive _).mono ?_; rintro e w3 ⟨rfl, hb3⟩))
    go_ret
    exact ⟨rfl, hB2.trans (hb3.mono hB2.size)⟩
  · rw [h1] at hsm
    rw [h2] at hset
    clear hv hu
    go_enter Try.func6, Try.ntmps6
    go_wp2_with (first
      | (go_at_call 9; refine hsm.mono ?_; rintro e w1 ⟨rfl, hb1⟩)
      | (go_at_call 16; refine (hset _ hb1).mono ?_; rintro e w2 ⟨rfl, hb2⟩; have hB2 := hb1.trans (hb2.mono hb1.size))
      | (go_at_call 10; refine (hlive _).mono ?_; rintro e w3 ⟨rfl, hb3⟩))
    go_ret
    exact ⟨rfl, hB2.trans (hb3.mono hB2.size)⟩
set_option maxRecDepth 100000 in
set_option maxHeartbeats 8000000 in
theorem walk_in (v : Value) (l : List Lb) (x : Int) (u : Value) (m : List Lb) (w : World) (hv : Lbs w v l) (hr : LbsR l) (hu : Lbs w u m) (hm : LbsR m) (h1 : smallB l = true) (h2 : setB m = true) (h3 : 0 ≤ x) (h63 : x ≤ 9223372036854775807) :
    Calls Try.prog 6 #[v, .int .i64 x, u] w fun e w' => e = .returned (.bool true) ∧ Below w.heap.size w w' := by
  have hl60 : l.length ≤ 60 := by
    unfold smallB at h1
    exact (of_decide_eq_true h1).1
  have him : IsSet m := setB_iff.1 h2
  have hm16 := him.2.2
  have hlive := fun W => live_ok W
  have hnum := fun x (hx : -1000 ≤ x ∧ x ≤ 1000) W => num_any x W (by omega) (by omega)
  have hsm := small_any v l w hv hr (by omega)
  rw [h1] at hsm
  have hset : ∀ W, Below w.heap.size w W → Calls Try.prog 16 #[u] W fun e w' => e = .returned (.bool (setB m)) ∧ Below W.heap.size W w' := fun W h => set_any _ m W (hu.grow h) hm (by omega)
  rw [h2] at hset
  obtain ⟨a, c, rfl⟩ := hv.shape
  have hvk : Hid (∀ W, Below w.heap.size w W → Lbs W (.slice a l.length c) l) := fun W h => hv.grow h
  have huk : Hid (∀ W, Below w.heap.size w W → Lbs W u m) := fun W h => hu.grow h
  have h3d : ¬ x < 0 := by omega
  clear hv hu h1 h2
  go_enter Try.func6, Try.ntmps6
  go_wp2_with (first
    | (go_at_call 9; refine hsm.mono ?_; rintro e w1 ⟨rfl, hb1⟩)
    | (go_at_call 16; refine (hset _ hb1).mono ?_; rintro e w2 ⟨rfl, hb2⟩; have hB2 := hb1.trans (hb2.mono hb1.size)))
  clear hset hsm
  obtain ⟨r, hrr⟩ : ∃ r : Nat, Hid (r = x.toNat % l.length) := ⟨_, rfl⟩
  go_loopw [7, 8] (fun t i wr => ∃ k : Nat, k ≤ l.length ∧ i = .int .i64 k ∧ OwnL wr w.heap.size t ((rotL l r).take k) ∧ Below w.heap.size w wr) (fun _ i _ => l.length - (intOf i).toNat)
  case atStart => exact ⟨0, Nat.zero_le _, rfl, OwnS.nil _ _, hB2⟩
  case round =>
    clear hB2 hb1 hb2
    obtain ⟨k, hk, rfl, ho, hB⟩ := hrel
    have hbz := hB.size
    by_cases hlt : k < l.length
    · have hki : (k : Int) < (l.length : Int) := by omega
      have hrl : r < l.length := by rw [hrr.out]; exact Nat.mod_lt _ (by omega)
      obtain ⟨q, hq⟩ : ∃ q : Nat, Hid (q = (k + r) % l.length) := ⟨_, rfl⟩
      have hql : q < l.length := by rw [hq.out]; exact Nat.mod_lt _ (by omega)
      have hqi : (q : Int) < (l.length : Int) := by omega
      have hrt : Hid ((rotL l r).take (k + 1) = (rotL l r).take k ++ [l.getD q lb0]) := by
        show _ = _
        rw [take_getD _ lb0 k (by rw [rotL_len]; exact hlt), rotL_get l r k hrl hlt, hq.out]
      have hm1 : x % (l.length : Int) = (r : Int) := by
        obtain ⟨X, rfl⟩ := Int.eq_ofNat_of_zero_le h3
        rw [hrr.out, Int.toNat_natCast]
        exact (Int.natCast_emod X l.length).symm
      have hm2 : ((k : Int) + (r : Int)) % (l.length : Int) = (q : Int) := by
        rw [hq.out]
        have := (Int.natCast_emod (k + r) l.length).symm
        rw [Int.natCast_add] at this
        exact this
      have ht1 : x.tmod (l.length : Int) = (r : Int) := by rw [Int.tmod_eq_emod_of_nonneg h3]; exact hm1
      have ht2 : ((k : Int) + (r : Int)).tmod (l.length : Int) = (q : Int) := by rw [Int.tmod_eq_emod_of_nonneg (by omega)]; exact hm2
      have hnz : ((l.length : Int) == 0) = false := beq_eq_false_iff_ne.2 (by omega)
      obtain ⟨b1, o1, rfl, x0, x1⟩ := lb_at (hvk.out _ hB) q hql
      have htl : ((rotL l r).take k).length ≤ 60 := Nat.le_trans (List.length_take_le _ _) (by omega)
      generalize (rotL l r).take k = L at *
      generalize l.getD q lb0 = y at *
      obtain ⟨n, s⟩ := y
      simp only at x0 x1
      go_wp2_with (first
        | (at_builtin; refine appR TL rfl (.tmp 32) (.tmp 45) rfl w.heap.size _ (.slice (some ⟨wr.heap.size, 0, none⟩) 1 1) L [⟨n, s⟩] rfl rfl (ho.alloc _) (sls_one (E := encL) wr ⟨n, s⟩ #[.string n, .string s] 52 rfl) (by simp; omega) (by simp; omega) ?_; intro v2 w2 ho2 hg2; have hB3 : Below w.heap.size w w2 := (hB.alloc hB.size _).grown hg2 (hB.alloc hB.size _).size (fun q hq => (ho.lt q hq).1)))
      refine ⟨⟨k + 1, by omega, by go_num, ho2.cast hrt.out.symm, hB3⟩, ?_⟩
      simp [intOf]; omega
    · obtain rfl : k = l.length := by omega
      have hki : ¬ (l.length : Int) < (l.length : Int) := by omega
      rw [List.take_of_length_le (by rw [rotL_len]; exact Nat.le_refl _)] at ho
      have hrp := rotL_perm l r
      have hrr2 := LbsR.perm hr hrp
      have hrl := rotL_len l r
      generalize rotL l r = T at *
      go_wp2_with fail
      refine (own_any _ l wr (hvk.out _ hB) (by omega)).mono ?_
      rintro e w3 ⟨u3, rfl, ho3, hb3⟩
      have hB3 := hB.trans (hb3.mono hB.size)
      go_wp2_with fail
      refine (make_any u3 l w3 ho3.sls hr (by omega)).mono ?_
      rintro e w4 ⟨u4, out, er, rfl, hq4, ho4, hb4⟩
      have hB4 := hB3.trans (hb4.mono hB3.size)
      have hT4 : Lbs w4 _ T := (ho.stay (hb3.trans (hb4.mono hb3.size))).sls
      go_wp2_with fail
      refine (make_any _ T w4 hT4 hrr2 (by omega)).mono ?_
      rintro e w5 ⟨u5, out', er', rfl, hq5, ho5, hb5⟩
      obtain ⟨rfl, rfl⟩ := hq5.one (hq4.perm hrp)
      have hB5 := hB4.trans (hb5.mono hB4.size)
      have hol : out'.length ≤ 60 := by have := mk_len hq4; omega
      have her := mk_er hq4
      go_wp2_with fail
      refine (same_any u4 u5 out' out' w5 (ho4.sls.grow hb5) ho5.sls (by omega) (by omega)).mono ?_
      rintro e w6 ⟨B, rfl, hBB, hb6⟩
      obtain rfl : B = true := hBB.2 rfl
      have hB6 := hB5.trans (hb6.mono hB5.size)
      have h46 : Below w4.heap.size w4 w6 := hb5.trans (hb6.mono hb5.size)
      have ha6 : Hid (∀ W, Below w6.heap.size w6 W → Lbs W u4 out') := fun W h => ho4.sls.grow (h46.trans (h.mono h46.size))
      by_cases he : er' = 0
      · subst he
        have hso : IsSet out' := hq4.set rfl
        have hsb := setB_iff.2 hso
        have h16 := hso.2.2
        have hse := fun W h => set_any u4 out' W (ha6.out W h) hso.short.reach (by omega)
        rw [hsb] at hse
        have hk1 := fun W h => key_any u4 out' W (ha6.out W h) hso.short (by omega)
        have hk2 := fun W (h : Below w6.heap.size w6 W) => key_any u m W (huk.out W (hB6.trans (h.mono hB6.size))) him.short (by omega)
        have hc1 := fun W h => compare_any u4 u out' m W (ha6.out W h) (huk.out W (hB6.trans (h.mono hB6.size))) (by omega) (by omega)
        have hc2 := fun W h => compare_any u u4 m out' W (huk.out W (hB6.trans (h.mono hB6.size))) (ha6.out W h) (by omega) (by omega)
        have hs1 := fun W h => same_any u4 u out' m W (ha6.out W h) (huk.out W (hB6.trans (h.mono hB6.size))) (by omega) (by omega)
        have hkeys : ((strOfNums (keyL out')).toList == (strOfNums (keyL m)).toList) = true ↔ out' = m := by
          refine ⟨fun h => keyL_inj (fun a ha => (hso.1 a ha).1) (fun a ha => (him.1 a ha).1) ?_, fun h => by rw [h]; simp⟩
          have h2 := congrArg numsS (toList_eq h)
          rw [numsS_strOf _ (keyL_bytes _), numsS_strOf _ (keyL_bytes _)] at h2
          exact h2
        have hcm : Hid (cmpS out' m = 0 ↔ out' = m) := cmpS_eq
        have hcn : Hid (cmpS m out' = - cmpS out' m) := cmpS_neg _ _
        have hci := cmpS_in out' m
        have hneg : cmpS m out' = -1 ∨ cmpS m out' = 0 ∨ cmpS m out' = 1 := cmpS_in m out'
        generalize strOfNums (keyL out') = K1 at *
        generalize strOfNums (keyL m) = K2 at *
        generalize cmpS out' m = C1 at *
        generalize cmpS m out' = C2 at *
        clear hq4 hq5 ho hT4 ho3 ho4 ho5 hso hsb
        by_cases heq : out' = m
        · have hkt := hkeys.2 heq
          have hC1 : C1 = 0 := hcm.out.2 heq
          have hC2 : C2 = 0 := by rw [hcn.out, hC1]; rfl
          subst hC1 hC2
          have hss : ∀ W h, Calls Try.prog 14 #[u4, u] W fun e w' => e = .returned (.bool true) ∧ Below W.heap.size W w' := fun W h => (hs1 W h).mono fun e w' ⟨B, he, hb, hbb⟩ => ⟨by rw [he, hb.2 heq], hbb⟩
          clear hkeys hs1 hcm hcn hci hneg heq
          go_wp2_with (first
            | (go_at_call 15; refine (hnum _ (by omega) _).mono ?_; rintro e wx ⟨rfl, hwx⟩; subst wx)
            | (go_at_call 16; refine (hse _ (Below.refl _ _)).mono ?_; rintro e w7 ⟨rfl, hb7⟩))
          refine (hk1 _ hb7).mono ?_
          rintro e w8 ⟨rfl, hb8⟩
          have g8 := hb7.trans (hb8.mono hb7.size)
          go_wp2_with fail
          refine (hk2 _ g8).mono ?_
          rintro e w9 ⟨rfl, hb9⟩
          have g9 := g8.trans (hb9.mono g8.size)
          go_wp2_with fail
          refine (hss _ g9).mono ?_
          rintro e w10 ⟨rfl, hb10⟩
          have g10 := g9.trans (hb10.mono g9.size)
          go_wp2_with fail
          refine (hc1 _ g10).mono ?_
          rintro e w11 ⟨rfl, hb11⟩
          have g11 := g10.trans (hb11.mono g10.size)
          go_wp2_with fail
          refine (hss _ g11).mono ?_
          rintro e w12 ⟨rfl, hb12⟩
          have g12 := g11.trans (hb12.mono g11.size)
          go_wp2_with fail
          refine (hc1 _ g12).mono ?_
          rintro e w13 ⟨rfl, hb13⟩
          have g13 := g12.trans (hb13.mono g12.size)
          go_wp2_with fail
          refine (hc2 _ g13).mono ?_
          rintro e w14 ⟨rfl, hb14⟩
          have g14 := g13.trans (hb14.mono g13.size)
          go_wp2_with (first | (go_at_call 10; refine (hlive _).mono ?_; rintro e w15 ⟨rfl, hb15⟩))
          go_ret
          have g15 := g14.trans (hb15.mono g14.size)
          exact ⟨rfl, hB6.trans (g15.mono hB6.size)⟩
        · have hkt : (K1.toList == K2.toList) = false := by
            cases e : (K1.toList == K2.toList) with
            | false => rfl
            | true => exact absurd (hkeys.1 e) heq
          have hC1 : C1 ≠ 0 := fun h => heq (hcm.out.1 h)
          have hC1b : (C1 == 0) = false := by simpa using hC1
          have hss : ∀ W h, Calls Try.prog 14 #[u4, u] W fun e w' => e = .returned (.bool false) ∧ Below W.heap.size W w' := fun W h => (hs1 W h).mono fun e w' ⟨B, he, hb, hbb⟩ => ⟨by
            rw [he]
            cases B with
            | false => rfl
            | true => exact absurd (hb.1 rfl) heq, hbb⟩
          have hneg2 : Hid (C1 = -C2) := by show _ = _; have := hcn.out; omega
          have hC12 : (C1 = -1 ∧ C2 = 1) ∨ (C1 = 1 ∧ C2 = -1) := by have := hcn.out; omega
          clear hkeys hs1 hcm hcn hci hneg heq hneg2 hC1
          rcases hC12 with ⟨rfl, rfl⟩ | ⟨rfl, rfl⟩
          all_goals
            clear hC1b
            go_wp2_with (first
              | (go_at_call 15; refine (hnum _ (by omega) _).mono ?_; rintro e wx ⟨rfl, hwx⟩; subst wx)
              | (go_at_call 16; refine (hse _ (Below.refl _ _)).mono ?_; rintro e w7 ⟨rfl, hb7⟩))
            refine (hk1 _ hb7).mono ?_
            rintro e w8 ⟨rfl, hb8⟩
            have g8 := hb7.trans (hb8.mono hb7.size)
            go_wp2_with fail
            refine (hk2 _ g8).mono ?_
            rintro e w9 ⟨rfl, hb9⟩
            have g9 := g8.trans (hb9.mono g8.size)
            go_wp2_with fail
            refine (hss _ g9).mono ?_
            rintro e w10 ⟨rfl, hb10⟩
            have g10 := g9.trans (hb10.mono g9.size)
            go_wp2_with fail
            refine (hc1 _ g10).mono ?_
            rintro e w11 ⟨rfl, hb11⟩
            have g11 := g10.trans (hb11.mono g10.size)
            go_wp2_with fail
            refine (hss _ g11).mono ?_
            rintro e w12 ⟨rfl, hb12⟩
            have g12 := g11.trans (hb12.mono g11.size)
            go_wp2_with fail
            refine (hc1 _ g12).mono ?_
            rintro e w13 ⟨rfl, hb13⟩
            have g13 := g12.trans (hb13.mono g12.size)
            go_wp2_with fail
            refine (hc2 _ g13).mono ?_
            rintro e w14 ⟨rfl, hb14⟩
            have g14 := g13.trans (hb14.mono g13.size)
            go_wp2_with (first | (go_at_call 10; refine (hlive _).mono ?_; rintro e w15 ⟨rfl, hb15⟩))
            go_ret
            have g15 := g14.trans (hb15.mono g14.size)
            exact ⟨rfl, hB6.trans (g15.mono hB6.size)⟩
      · have hout : Hid (out' = []) := by
          show _ = _
          rcases hq4 with ⟨_, _, h⟩ | ⟨_, _, _, h⟩ | ⟨_, _, _, _, h⟩ | ⟨_, _, h, _⟩
          · exact h
          · exact h
          · exact h
          · exact absurd h he
        have heb : (er' == 0) = false := by simpa using he
        have hen : (er' != 0) = true := by simpa using he
        have hu4 : ∃ a4 c4, u4 = .slice a4 0 c4 := by
          obtain ⟨a4, c4, e⟩ := ho4.shape
          rw [hout.out] at e
          exact ⟨a4, c4, e⟩
        obtain ⟨a4, c4, rfl⟩ := hu4
        clear hq4 hq5 ho hT4 ho3 ho4 ho5 he ha6
        go_wp2_with (first
          | (go_at_call 15; refine (hnum _ (by omega) _).mono ?_; rintro e wx ⟨rfl, hwx⟩; subst wx)
          | (go_at_call 10; refine (hlive _).mono ?_; rintro e w7 ⟨rfl, hb7⟩))
        go_ret
        exact ⟨rfl, hB6.trans (hb7.mono hB6.size)⟩
theorem walk (v : Value) (l : List Lb) (x : Int) (u : Value) (m : List Lb) (w : World) (hv : Lbs w v l) (hr : LbsR l) (hL : l.length ≤ reachBytes) (hx : -9223372036854775808 ≤ x ∧ x ≤ 9223372036854775807) (hu : Lbs w u m) (hm : LbsR m) (hM : m.length ≤ reachBytes) :
    Calls Try.prog 6 #[v, .int .i64 x, u] w fun e w' => e = .returned (.bool true) ∧ Below w.heap.size w w' := by
  unfold reachBytes at hL hM
  cases h1 : smallB l with
  | false => exact walk_out v l x u m w hv hr hL hu hm hM (.inl h1)
  | true =>
    cases h2 : setB m with
    | false => exact walk_out v l x u m w hv hr hL hu hm hM (.inr (.inl ⟨h1, h2⟩))
    | true =>
      by_cases h3 : x < 0
      · exact walk_out v l x u m w hv hr hL hu hm hM (.inr (.inr ⟨h1, h2, h3⟩))
      · exact walk_in v l x u m w hv hr hu hm h1 h2 (by omega) hx.2
/-! ### THE ROW's STEP -/
set_option maxRecDepth 100000 in
theorem lifted (os : Os) (started : os.Started) (H : Type) (enc : TypeId × Value → H) :
    ReturnsInHanded {} Try.checked os 6 .any (Rows.labelsSetsSpec.pre6 enc Try.prog Try.f6 Rows.labelsSetsRow.domain false) (Rows.labelsSetsSpec.post enc Try.prog Try.f6 false true false false) := by
  refine returnsInHanded_of_change_sized (C := Try.checked) own started (by kernel_rfl) Try.func6
    (ChangeSpec.witness6 (enc := enc) (C := Try.checked) false ⟨#[], #[.slice none 0 0, .int .i64 0, .slice none 0 0], []⟩ 8 (by kernel_rfl) (by kernel_rfl) (by kernel_rfl) (by kernel_rfl)) ?_
  intro W base args ds gs before hval0 hW hcnd hsz0 _
  have hsz : (DataW.weightsEach Try.prog (Try.f6.params.toList ++ Rows.labelsSetsSpec.plain.varTypes Try.prog) (ds ++ gs)).all (· ≤ reachBytes) = true := hsz0
  have hval : ∀ (j : Nat) t v, Try.f6.params[j]? = some t → args[j]? = some v → Value.okWide Try.prog W .any base t v := hval0
  have hW' := hW
  obtain ⟨p, q, hA0, hV, rfl, hfz, hnd⟩ := hW
  have hA : DataW.TrodAll enc Try.prog W 0 (fun _ => true) true Try.f6.params.toList args.toList ds p := hA0
  rw [Try.params6] at hA hval hsz
  obtain ⟨v0, vs0, d0, ds0, p0, q0, hargs, rfl, rfl, h0, r0⟩ := trodAll_cons hA
  obtain ⟨v1, vs1, d1, ds1, p1, q1, rfl, rfl, rfl, h1, r1⟩ := trodAll_cons r0
  obtain ⟨v2, vs2, d2, ds2, p2, q2, rfl, rfl, rfl, h2, r2⟩ := trodAll_cons r1
  obtain ⟨rfl, rfl, rfl⟩ := trodAll_nil r2
  obtain rfl : args = #[v0, v1, v2] := by cases args; simp_all
  obtain ⟨rfl, rfl⟩ := trodVars_none hV
  have k0 := h0
  have lt0 : ∀ x ∈ p0, x.block < W.heap.size := by obtain ⟨m, hm⟩ := k0; exact DataW.trod_lt m _ _ _ hm
  obtain ⟨a0, n0, c0, rfl⟩ := okWide_slice Try.underlying22 (hval 0 22 v0 rfl rfl)
  obtain ⟨l0, hP0, hR0, hL0⟩ : ∃ l, Lbs W (.slice a0 n0 c0) l ∧ LbsR l ∧ l.length ≤ reachBytes := by
    obtain ⟨fuel, hf⟩ := h0
    refine lbs_of_trod hf (fun q hq => ?_)
    have := List.all_eq_true.1 hsz _ (DataW.weights_mem_each (j := 0) (t := 22) rfl rfl q hq)
    simpa using this
  obtain ⟨x1, rfl, rfl, rfl, w1⟩ := open_int Try.underlying3 (hval 1 3 v1 rfl rfl) h1
  have k2 := h2
  have lt2 : ∀ x ∈ p2, x.block < W.heap.size := by obtain ⟨m, hm⟩ := k2; exact DataW.trod_lt m _ _ _ hm
  obtain ⟨a2, n2, c2, rfl⟩ := okWide_slice Try.underlying22 (hval 2 22 v2 rfl rfl)
  obtain ⟨l2, hP2, hR2, hL2⟩ : ∃ l, Lbs W (.slice a2 n2 c2) l ∧ LbsR l ∧ l.length ≤ reachBytes := by
    obtain ⟨fuel, hf⟩ := h2
    refine lbs_of_trod hf (fun q hq => ?_)
    have := List.all_eq_true.1 hsz _ (DataW.weights_mem_each (j := 2) (t := 22) rfl rfl q hq)
    simpa using this
  clear hA0 hval0
  refine (walk (.slice a0 n0 c0) l0 x1 (.slice a2 n2 c2) l2 W hP0 hR0 hL0 (in64_of w1) hP2 hR2 hL2).mono fun e W' ⟨he, bel⟩ => ?_
  subst he
  exact ⟨_, rfl, _, _, _, [], _, [], hW', trodAll_mk1 (shut_bool Try.underlying4 _), (trodAll_cons_mk (Below.trod laidOut (by kernel_rfl) (of_decide_eq_true (by kernel_rfl)) k0 bel lt0) (trodAll_cons_mk (shut_int Try.underlying3 w1) (trodAll_cons_mk (Below.trod laidOut (by kernel_rfl) (of_decide_eq_true (by kernel_rfl)) k2 bel lt2) trodAll_mk0))), rfl, bel.frame _, fun h => by cases h⟩
theorem over : Rows.labelsSetsRow.holds Try.pinned (OpenSpec.ofChange Rows.labelsSetsSpec) :=
  OpenClaim.holds_of_wide 6 Try.f6 rfl rfl rfl rfl rfl rfl rfl ⟨rfl, rfl, rfl, rfl, rfl⟩ rfl rfl rfl rfl rfl (by kernel_rfl) Try.func6 (by kernel_rfl)
    (of_decide_eq_true (by kernel_rfl)) (by unfold Func.isWrapper; first | (rw [if_pos (by decide +kernel)]; kernel_rfl) | (rw [if_neg (by decide +kernel)]; exact ⟨rfl, rfl⟩))
    (fun os started H enc _ => lifted os started H enc)
end Go.Proofs.Ytckchabcnmkbeaa.labelsSets
namespace Go.Proofs.Ytckchabcnmkbeaa
/-- The statement. -/
theorem labelsSets_holds : Rows.LabelsSetsSaid := labelsSets.over
#print axioms labelsSets_holds
end Go.Proofs.Ytckchabcnmkbeaa
