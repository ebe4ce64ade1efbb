/- Ot; Ou. -/
import Derived.Test.YtaffplmfnincfaaGreatDoorOpOs
import Derived.Test.YtaffplmfnincfaaGreatDoorOjOo
/- Check. -/
namespace Go.Proofs.YtaffplmfnincfaaGreatDoor
set_option linter.unusedVariables false
open Go.RowKit
set_option maxRecDepth 100000 in
set_option maxHeartbeats 4000000 in
/-- slices.IndexFunc at nodes. -/
theorem idx53 (v : Value) (l : List Nd) (w : World) (hv : Sls encN w v l) (hl : l.length ≤ 1000000) (hp : ∀ k W, k < l.length → Below w.heap.size w W → Calls Tryz.prog 33 #[ndV (l.getD k nd0)] W fun e w' => e = .returned (.bool (!mayB (l.getD k nd0))) ∧ Below W.heap.size W w') : Calls Tryz.prog 53 #[v, .func (.func 33) #[] #[]] w fun e w' => e = .returned (.int .i64 (idxP (fun x => !mayB x) l)) ∧ Below w.heap.size w w' := by
  obtain ⟨a, c, rfl⟩ := hv.shape
  replace hv : Hid (Sls encN w (.slice a l.length c) l) := hv
  replace hp : Hid (∀ k W, k < l.length → Below w.heap.size w W → Calls Tryz.prog 33 #[ndV (l.getD k nd0)] W fun e w' => e = .returned (.bool (!mayB (l.getD k nd0))) ∧ Below W.heap.size W w') := hp
  cases hany : l.any (fun x => !mayB x) with
  | false =>
    have hid : Hid (idxP (fun x => !mayB x) l = -1) := by unfold idxP; rw [hany]; rfl
    have hno : Hid (∀ k, k < l.length → (!mayB (l.getD k nd0)) = false) := fun k hk => idxP_none (fun x => !mayB x) _ hany k hk
    clear hany
    rw [hid.out]
    go_enter Tryz.func53, Tryz.ntmps53
    go_wp2
    go_loopw [8] (fun i wr => ∃ k : Nat, k ≤ l.length ∧ i = .int .i64 k ∧ Hid (Below w.heap.size w wr)) (fun i _ => l.length - (intOf i).toNat)
    case atStart => exact ⟨0, Nat.zero_le _, rfl, Below.refl _ _⟩
    case round =>
      obtain ⟨k, hk, rfl, hB⟩ := hrel
      by_cases hlt : k < l.length
      · have hki : (k : Int) < (l.length : Int) := by omega
        obtain ⟨b, o, rfl, c0, c1, c2, c3, c4, c5, c6, c7, c8, c9, c10⟩ := nd_at (hv.out.grow hB.out) k hlt
        have hu := hp.out k wr hlt hB.out
        rw [hno.out k hlt] at hu
        generalize l.getD k nd0 = r at *
        go_wp2_with (first
          | (go_at_call 33; refine hu.mono ?_; rintro e w1 ⟨rfl, hb1⟩; have hB1 : Hid _ := hB.out.trans (hb1.mono hB.out.size)))
        refine ⟨⟨k + 1, by omega, by go_num, hB1⟩, ?_⟩
        simp [intOf]; omega
      · obtain rfl : k = l.length := by omega
        have hki : ¬ (l.length : Int) < (l.length : Int) := by omega
        have hB' := hB.out
        go_wp2
        go_ret
        exact ⟨rfl, hB'⟩
  | true =>
    obtain ⟨h1, h2, h3⟩ := idxP_some (fun x => !mayB x) nd0 hany
    have hid : Hid (idxP (fun x => !mayB x) l = (l.findIdx (fun x => !mayB x) : Int)) := by unfold idxP; rw [hany]; rfl
    rw [hid.out]
    clear hid hany
    generalize l.findIdx (fun x => !mayB x) = K at *
    replace h2 : Hid ((!mayB (l.getD K nd0)) = true) := h2
    replace h3 : Hid (∀ k, k < K → (!mayB (l.getD k nd0)) = false) := h3
    go_enter Tryz.func53, Tryz.ntmps53
    go_wp2
    go_loopw [8] (fun i wr => ∃ k : Nat, k ≤ K ∧ i = .int .i64 k ∧ Hid (Below w.heap.size w wr)) (fun i _ => l.length - (intOf i).toNat)
    case atStart => exact ⟨0, Nat.zero_le _, rfl, Below.refl _ _⟩
    case round =>
      obtain ⟨k, hk, rfl, hB⟩ := hrel
      have hki : (k : Int) < (l.length : Int) := by omega
      obtain ⟨b, o, rfl, c0, c1, c2, c3, c4, c5, c6, c7, c8, c9, c10⟩ := nd_at (hv.out.grow hB.out) k (by omega)
      have hu := hp.out k wr (by omega) hB.out
      by_cases hlt : k < K
      · rw [h3.out k hlt] at hu
        generalize l.getD k nd0 = r at *
        go_wp2_with (first
          | (go_at_call 33; refine hu.mono ?_; rintro e w1 ⟨rfl, hb1⟩; have hB1 : Hid _ := hB.out.trans (hb1.mono hB.out.size)))
        refine ⟨⟨k + 1, by omega, by go_num, hB1⟩, ?_⟩
        simp [intOf]; omega
      · obtain rfl : k = K := by omega
        rw [h2.out] at hu
        clear h3
        generalize l.getD k nd0 = r at *
        go_wp2_with (first
          | (go_at_call 33; refine hu.mono ?_; rintro e w1 ⟨rfl, hb1⟩; have hB1 := hB.out.trans (hb1.mono hB.out.size)))
        go_ret
        exact ⟨rfl, hB1⟩
set_option maxRecDepth 100000 in
set_option maxHeartbeats 2000000 in
/-- slices.ContainsFunc at nodes. -/
theorem cont32 (v : Value) (l : List Nd) (w : World) (hv : Sls encN w v l) (hl : l.length ≤ 1000000) (hp : ∀ k W, k < l.length → Below w.heap.size w W → Calls Tryz.prog 33 #[ndV (l.getD k nd0)] W fun e w' => e = .returned (.bool (!mayB (l.getD k nd0))) ∧ Below W.heap.size W w') : Calls Tryz.prog 32 #[v, .func (.func 33) #[] #[]] w fun e w' => e = .returned (.bool (l.any (fun x => !mayB x))) ∧ Below w.heap.size w w' := by
  have hi := idx53 v l w hv hl hp
  obtain ⟨a, c, rfl⟩ := hv.shape
  clear hp hv
  cases hany : l.any (fun x => !mayB x) with
  | false =>
    rw [show idxP (fun x => !mayB x) l = -1 by unfold idxP; rw [hany]; rfl] at hi
    go_enter Tryz.func32, Tryz.ntmps32
    go_wp2_with (first | (go_at_call 53; refine hi.mono ?_; rintro e w1 ⟨rfl, hb1⟩))
    go_ret
    exact ⟨rfl, hb1⟩
  | true =>
    rw [show idxP (fun x => !mayB x) l = (l.findIdx (fun x => !mayB x) : Int) by unfold idxP; rw [hany]; rfl] at hi
    generalize l.findIdx (fun x => !mayB x) = K at *
    go_enter Tryz.func32, Tryz.ntmps32
    go_wp2_with (first | (go_at_call 53; refine hi.mono ?_; rintro e w1 ⟨rfl, hb1⟩))
    go_ret
    exact ⟨by simp, hb1⟩
end Go.Proofs.YtaffplmfnincfaaGreatDoor
/- Check: the walk. -/
namespace Go.Proofs.YtaffplmfnincfaaGreatDoor
set_option linter.unusedVariables false
open Go.RowKit
open Classical in
/-- What Order tells of nodes whose refs are apart. -/
noncomputable def ordN (l : List Nd) : Option (List ByteArray) := if h : ∃ r, OrdT l r then h.choose else none
theorem ordN_is {l : List Nd} {r : Option (List ByteArray)} (h : OrdT l r) : ordN l = r := by
  have hh : ∃ r, OrdT l r := ⟨r, h⟩
  unfold ordN
  rw [dif_pos hh]
  exact hh.choose_spec.one h
open Classical in
/-- What Check tells. -/
noncomputable def chkN (c : ByteArray) (l : List Nd) : Int := if 16 < l.length then 6 else if l.any (fun x => !mayB x) = true then 120 else if ¬ (l.map (·.ref)).Nodup then 8 else if thB (byN l) (allI l ++ [c]) = false then 7 else if ordN l = none then 121 else 0
/-- Nodes whose texts are short. -/
def ShA (l : List Nd) : Prop := ∀ x ∈ l, NdS x
theorem ShA.sh {l : List Nd} (h : ShA l) : ShN l := fun x hx => (h x hx).2.2
set_option maxRecDepth 100000 in
set_option maxHeartbeats 8000000 in
/-- Check. -/
theorem check15 (cn : ByteArray) (a : Option Addr) (n c : Nat) (l : List Nd) (w : World) (hG : G w) (hS : SignsAt w) (hv : Sls encN w (.slice a n c) l) (hl : l.length ≤ 1000) (hsh : ShA l) : Calls Tryz.prog 15 #[.string cn, .slice a n c] w fun e w' => e = .returned (.int .i64 (chkN cn l)) ∧ Below w.heap.size w w' := by
  have hn : Hid (n = l.length) := hv.len
  have hn1 : n ≤ 1000 := by have := hn.out; omega
  obtain ⟨R, hR⟩ : ∃ R, Hid (R = chkN cn l) := ⟨_, rfl⟩
  rw [← hR.out]
  by_cases h16 : 16 < l.length
  · have hni : (16 : Int) < (n : Int) := by have := hn.out; omega
    replace hR : Hid (R = 6) := hR.out.trans (by unfold chkN; rw [if_pos h16])
    clear hG hS hv hsh
    go_enter Tryz.func15, Tryz.ntmps15
    go_wp2
    go_ret
    exact ⟨by rw [hR.out]; rfl, Below.refl _ _⟩
  have hni : ¬ (16 : Int) < (n : Int) := by have := hn.out; omega
  have hby := byRef21 a n c l w hv (by omega)
  have hcf : Hid (∀ W, Below w.heap.size w W → Calls Tryz.prog 32 #[.slice a n c, .func (.func 33) #[] #[]] W fun e w' => e = .returned (.bool (l.any (fun x => !mayB x))) ∧ Below W.heap.size W w') := fun W hW =>
    cont32 _ l W (hv.grow hW) (by omega) fun k W' hk hW' => by
      have hB := hW.trans (hW'.mono hW.size)
      exact may33 (l.getD k nd0) W' (hG.grow hB) (hS.grow hB) (hsh _ (lgetD_mem l nd0 k hk))
  by_cases hany : l.any (fun x => !mayB x) = true
  · replace hR : Hid (R = 120) := hR.out.trans (by unfold chkN; rw [if_neg h16, if_pos hany])
    rw [hany] at hcf
    clear hG hS hv hsh h16
    go_enter Tryz.func15, Tryz.ntmps15
    go_wp2_with (first
      | (go_at_call 21; refine hby.mono ?_; clear hby; rintro e W ⟨b, rfl, h1⟩; have hBW : Below w.heap.size w W := h1.out.2.2; have hc2 := hcf.out W hBW)
      | (go_at_call 32; refine hc2.mono ?_; rintro e w2 ⟨rfl, hb2⟩))
    go_ret
    exact ⟨by rw [hR.out]; rfl, hBW.trans (hb2.mono hBW.size)⟩
  have hany2 : l.any (fun x => !mayB x) = false := by simpa using hany
  rw [hany2] at hcf
  by_cases hnd : ¬ (l.map (·.ref)).Nodup
  · replace hR : Hid (R = 8) := hR.out.trans (by unfold chkN; rw [if_neg h16, if_neg hany, if_pos hnd])
    have hlt : ((byN l).length : Int) < (n : Int) := by have := (there_iff l).2 hnd; have := hn.out; omega
    clear hG hS hv hsh h16 hany hany2 hnd
    go_enter Tryz.func15, Tryz.ntmps15
    go_wp2_with (first
      | (go_at_call 21; refine hby.mono ?_; clear hby; rintro e W ⟨b, rfl, h1⟩; have hBW : Below w.heap.size w W := h1.out.2.2; have hc2 := hcf.out W hBW)
      | (go_at_call 32; refine hc2.mono ?_; rintro e w2 ⟨rfl, hb2⟩; have hlen := len_ntab (h1.out.1.grow hb2)))
    go_ret
    exact ⟨by rw [hR.out]; rfl, hBW.trans (hb2.mono hBW.size)⟩
  have hdd : (l.map (·.ref)).Nodup := Classical.not_not.1 hnd
  have hlt : ¬ ((byN l).length : Int) < (n : Int) := by rw [byN_of_nodup hdd]; have := hn.out; simp; omega
  have hall : Hid (∀ W, Below w.heap.size w W → Calls Tryz.prog 35 #[.slice a n c] W fun e w' => ∃ a' n' c', e = .returned (.slice a' n' c') ∧ Hid (OwnT w' W.heap.size (.slice a' n' c') (allI l) ∧ Below W.heap.size W w')) := fun W hW => all35 a n c l W (hG.grow hW) (hS.grow hW) (hv.grow hW) hl hsh.sh
  have hfew : (allI l).length + [cn].length ≤ 1000000000 := by have := allI_len l; simp; omega
  have hth : Hid (∀ W b a' n' c', NTab W b (byN l) → Txs W (.slice a' n' c') (allI l ++ [cn]) → Calls Tryz.prog 34 #[.map (some b), .slice a' n' c'] W fun e w' => e = .returned (.bool (thB (byN l) (allI l ++ [cn]))) ∧ Below W.heap.size W w') := fun W b a' n' c' h1 h2 => there34 b (byN l) a' n' c' _ W h1 h2 (by have := allI_len l; simp; omega)
  have hor : Hid (∀ W, Below w.heap.size w W → Calls Tryz.prog 9 #[.slice a n c] W fun e w' => ∃ r, Hid (OrdT l r ∧ OrdA r e w' ∧ Below W.heap.size W w')) := fun W hW => order9_ok a n c l W (hG.grow hW) (hS.grow hW) (hv.grow hW) hl hsh.sh hdd
  clear hG hS hv hsh
  by_cases ht : thB (byN l) (allI l ++ [cn]) = false
  · replace hR : Hid (R = 7) := hR.out.trans (by unfold chkN; rw [if_neg h16, if_neg hany, if_neg hnd, if_pos ht])
    rw [ht] at hth
    clear h16 hany hany2 hnd ht hdd hor
    generalize byN l = M at *
    generalize allI l = AL at *
    go_enter Tryz.func15, Tryz.ntmps15
    go_wp2_with (first
      | (go_at_call 21; refine hby.mono ?_; clear hby; rintro e W ⟨b, rfl, h1⟩; have hBW : Below w.heap.size w W := h1.out.2.2; have hc2 := hcf.out W hBW)
      | (go_at_call 32; refine hc2.mono ?_; rintro e w2 ⟨rfl, hb2⟩; have ht2 := h1.out.1.grow hb2; have hlen := len_ntab ht2; have hB2 := hBW.trans (hb2.mono hBW.size); have ha2 := hall.out w2 hB2)
      | (go_at_call 35; refine ha2.mono ?_; rintro e w3 ⟨a3, n3, c3, rfl, h3⟩; have ht3 := ht2.grow h3.out.2; have hB3 := hB2.trans (h3.out.2.mono hB2.size); have ho3 := (h3.out.1.alloc (.cells #[.string cn] 9)))
      | (at_builtin; refine appR TS rfl (.tmp 25) (.tmp 27) rfl w2.heap.size _ _ AL [cn] rfl rfl ho3 (sls_one (E := encS) w3 cn #[.string cn] 9 rfl) (by have := h3.out.2.size; simp; omega) hfew ?_; intro v4 w4 o4 d4; have hB4 : Below w2.heap.size w2 w4 := (h3.out.2.trans ((bW0 w3 _).mono h3.out.2.size)).trans (ho3.grows (by have := h3.out.2.size; simp; omega) d4); have ht4 := ht2.grow hB4; obtain ⟨a4, c4, hv4⟩ := o4.shape; obtain ⟨n4, hn4⟩ : ∃ n4, n4 = (AL ++ [cn]).length := ⟨_, rfl⟩; rw [← hn4] at hv4; clear hn4; subst hv4; have hca := hth.out w4 b a4 n4 c4 ht4 o4.sls)
      | (go_at_call 34; refine hca.mono ?_; rintro e w5 ⟨rfl, hb5⟩))
    go_ret
    have hB4' := hB2.trans (hB4.mono hB2.size)
    exact ⟨by rw [hR.out]; rfl, hB4'.trans (hb5.mono hB4'.size)⟩
  · have ht2 : thB (byN l) (allI l ++ [cn]) = true := by simpa using ht
    rw [ht2] at hth
    replace hR : Hid (∀ r, OrdT l r → R = if r = none then 121 else 0) := fun r hr => by
      rw [hR.out]
      unfold chkN
      rw [if_neg h16, if_neg hany, if_neg hnd, if_neg ht, ordN_is hr]
    clear h16 hany hany2 hnd ht hdd ht2
    generalize byN l = M at *
    generalize allI l = AL at *
    go_enter Tryz.func15, Tryz.ntmps15
    go_wp2_with (first
      | (go_at_call 21; refine hby.mono ?_; clear hby; rintro e W ⟨b, rfl, h1⟩; have hBW : Below w.heap.size w W := h1.out.2.2; have hc2 := hcf.out W hBW)
      | (go_at_call 32; refine hc2.mono ?_; rintro e w2 ⟨rfl, hb2⟩; have ht2 := h1.out.1.grow hb2; have hlen := len_ntab ht2; have hB2 := hBW.trans (hb2.mono hBW.size); have ha2 := hall.out w2 hB2)
      | (go_at_call 35; refine ha2.mono ?_; rintro e w3 ⟨a3, n3, c3, rfl, h3⟩; have ht3 := ht2.grow h3.out.2; have hB3 := hB2.trans (h3.out.2.mono hB2.size); have ho3 := (h3.out.1.alloc (.cells #[.string cn] 9)))
      | (at_builtin; refine appR TS rfl (.tmp 25) (.tmp 27) rfl w2.heap.size _ _ AL [cn] rfl rfl ho3 (sls_one (E := encS) w3 cn #[.string cn] 9 rfl) (by have := h3.out.2.size; simp; omega) hfew ?_; intro v4 w4 o4 d4; have hB4 : Below w2.heap.size w2 w4 := (h3.out.2.trans ((bW0 w3 _).mono h3.out.2.size)).trans (ho3.grows (by have := h3.out.2.size; simp; omega) d4); have ht4 := ht2.grow hB4; obtain ⟨a4, c4, hv4⟩ := o4.shape; obtain ⟨n4, hn4⟩ : ∃ n4, n4 = (AL ++ [cn]).length := ⟨_, rfl⟩; rw [← hn4] at hv4; clear hn4; subst hv4; have hca := hth.out w4 b a4 n4 c4 ht4 o4.sls)
      | (go_at_call 34; refine hca.mono ?_; rintro e w5 ⟨rfl, hb5⟩; have hB4' := hB2.trans (hB4.mono hB2.size); have hB5 := hB4'.trans (hb5.mono hB4'.size); have ho9 := hor.out w5 hB5)
      | (go_at_call 9; refine ho9.mono ?_; rintro e w6 ⟨r, h6⟩; obtain ⟨hT, hA, hb6⟩ := h6.out; rcases hA with ⟨hr, rfl⟩ | ⟨out, a6, n6, c6, hr, rfl, hx6⟩))
    · go_ret
      exact ⟨by rw [hR.out r hT, if_pos hr]; rfl, hB5.trans (hb6.mono hB5.size)⟩
    · go_ret
      exact ⟨by rw [hR.out r hT, if_neg (by rw [hr]; intro e; cases e)]; rfl, hB5.trans (hb6.mono hB5.size)⟩
end Go.Proofs.YtaffplmfnincfaaGreatDoor
