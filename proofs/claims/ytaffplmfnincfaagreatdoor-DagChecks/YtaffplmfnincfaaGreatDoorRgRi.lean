/- Rg; Rh; Ri. -/
import Derived.Test.YtaffplmfnincfaaGreatDoorRaRf
import Derived.Test.YtaffplmfnincfaaGreatDoorOvOx
import Derived.Test.YtaffplmfnincfaaGreatDoorPc
/- DagChecks: the document's Order: the walk. -/
namespace Go.Proofs.YtaffplmfnincfaaGreatDoor
set_option linter.unusedVariables false
open Go.RowKit
def slen : Value → Nat
  | .slice _ k _ => k
  | _ => 0
open Classical in
set_option maxRecDepth 100000 in
set_option maxHeartbeats 16000000 in
/-- The document's Order, of refs that differ. -/
theorem rorder_ok (a : Option Addr) (n c : Nat) (l : List Nd) (w : World) (hG : G w) (hS : SignsAt w) (hv : Sls encN w (.slice a n c) l) (hl : n ≤ 1000) (hp : ∀ x ∈ l, TPar x.text) (hd : (l.map (·.ref)).Nodup) (r : Option (List ByteArray)) (hr : OrdT l r) : Calls Tryz.prog 10 #[.slice a n c] w fun e w' => (r = none ∧ e = .returned (.tuple #[.slice none 0 0, .int .i64 121]) ∧ Below w.heap.size w w') ∨ ∃ a' n' c' T, e = .returned (.tuple #[.slice a' n' c', .int .i64 0]) ∧ Hid (r = some T ∧ Txs w' (.slice a' n' c') T ∧ Below w.heap.size w w') := by
  have hn : Hid (n = l.length) := hv.len
  have htw := twice26 a n c l w hv (by omega)
  rw [decide_eq_false (fun h => h hd)] at htw
  have hcell : Hid (∀ w' i, Below w.heap.size w w' → i < l.length → Sls encN w' (.slice a n c) l) := fun w' i h hi => hv.grow h
  have hin : Hid (∀ w' i, Below w.heap.size w w' → i < l.length → Calls Tryz.prog 13 #[ndV (l.getD i nd0)] w' fun e w'' => ∃ a n c, e = .returned (.slice a n c) ∧ Hid (Txs w'' (.slice a n c) (inpN (l.getD i nd0)) ∧ Below w'.heap.size w' w'')) := fun w' i h hi => rinputs13 _ w' (hG.grow h) (hS.grow h) (hp _ (lgetD_mem l nd0 i hi))
  obtain ⟨L0, hL0⟩ := RemI.start hr
  replace hL0 : Hid (RemI l [] L0 r) := hL0
  replace hd : Hid ((l.map (·.ref)).Nodup) := hd
  clear hv hp hG hS hr
  go_enter Tryz.func10, Tryz.ntmps10
  go_wp2_with (first | (go_at_call 26; refine htw.mono ?_; clear htw; rintro e w1 ⟨rfl, hb1⟩))
  go_loopw [4] (fun v wr => ∃ (aT : Option Addr) (nT cT : Nat) (T : List ByteArray) (L : List Sq), v = .slice aT nT cT ∧ nT ≤ n ∧ Hid (OwnT wr w.heap.size v T) ∧ Hid (RemI l T L r) ∧ Hid (Below w.heap.size w wr)) (fun v _ => n - slen v)
  case atStart => exact ⟨none, 0, 0, [], L0, rfl, Nat.zero_le _, OwnS.nil _ _, hL0, hb1⟩
  case round =>
    obtain ⟨aT, nT, cT, T, L, rfl, hnT, hT, hR, hB⟩ := hrel
    obtain ⟨wo, rfl⟩ : ∃ wo, wo = wr := ⟨_, rfl⟩
    have hTl : Hid (nT = T.length) := hT.out.sls.len
    by_cases hlt : nT < n
    · have hlti : (nT : Int) < (n : Int) := by omega
      have hin27 : Hid (∀ w' s, Below wo.heap.size wo w' → Calls Tryz.prog 27 #[.slice aT nT cT, .string s] w' fun e w'' => e = .returned (.bool (decide (s ∈ T))) ∧ Below w'.heap.size w' w'') := fun w' s h => in27 aT nT cT T s w' (hT.out.stay h).sls (by omega)
      go_wp2
      go_loopw [5, 6, 7] (fun b f i wx => ∃ (k : Nat) (fo : Bool) (bs : ByteArray), k ≤ n ∧ i = .int .i64 k ∧ f = .bool fo ∧ b = .string bs ∧ Hid (PickI l T k fo bs) ∧ Hid (Below wo.heap.size wo wx)) (fun _ _ i _ => n - (intOf i).toNat)
      case atStart => exact ⟨0, false, _, Nat.zero_le _, rfl, rfl, rfl, PickI.start _ _ _, Below.refl _ _⟩
      case round =>
        obtain ⟨k, fo, bs, hk, rfl, rfl, rfl, hP, hbx⟩ := hrel
        obtain ⟨wx, rfl⟩ : ∃ wx, wx = wr := ⟨_, rfl⟩
        by_cases hkn : k < n
        · have hki : (k : Int) < (n : Int) := by omega
          have hkl : k < l.length := by have := hn.out; omega
          obtain ⟨q, o, rfl, c0, c1, c2, c3, c4, c5, c6, c7, c8, c9, c10⟩ := nd_at (hcell.out wx k (hB.out.trans (hbx.out.mono hB.out.size)) hkl) k hkl
          have h27 := hin27.out wx (l.getD k nd0).ref hbx.out
          have hi13 : Hid (∀ w', Below wo.heap.size wo w' → Calls Tryz.prog 13 #[ndV (l.getD k nd0)] w' fun e w'' => ∃ a n c, e = .returned (.slice a n c) ∧ Hid (Txs w'' (.slice a n c) (inpN (l.getD k nd0)) ∧ Below w'.heap.size w' w'')) := fun w' h => hin.out w' k (hB.out.trans (h.mono hB.out.size)) hkl
          obtain ⟨x, hxe⟩ : ∃ x, Hid (x = l.getD k nd0) := ⟨_, rfl⟩
          rw [← hxe.out] at c0 c1 c2 c3 c4 c5 c6 c7 c8 c9 c10 h27 hi13
          by_cases hm : x.ref ∈ T
          · rw [decide_eq_true hm] at h27
            have hP2 : Hid (PickI l T (k + 1) fo bs) := hP.out.skip (.inl (by rw [← hxe.out]; exact fun h => h.1 hm))
            go_wp2_with (first
              | (go_at_call 27; refine h27.mono ?_; clear h27; rintro e w3 ⟨rfl, hb3⟩))
            have hb3' : Hid (Below wo.heap.size wo w3) := hbx.out.trans (hb3.mono hbx.out.size)
            go_roundw
            case rel => exact ⟨k + 1, fo, bs, by omega, by go_num, rfl, rfl, hP2, hb3'⟩
            case measure => simp [intOf]; omega
          rw [decide_eq_false hm] at h27
          have hls := less_cmp x.ref bs
          replace hm : Hid (x.ref ∉ T) := hm
          cases fo with
          | true =>
            by_cases hb : bltS bs x.ref
            · rw [decide_eq_false (show ¬ cmpL (numsS x.ref) (numsS bs) = -1 from hb.asymm)] at hls
              have hle := toList_ne hb.ne.symm
              have hP2 : Hid (PickI l T (k + 1) true bs) := hP.out.skip (.inr ⟨rfl, by rw [← hxe.out]; exact hb⟩)
              clear hb
              go_wp2_with (first
                | (go_at_call 27; refine h27.mono ?_; clear h27; rintro e w3 ⟨rfl, hb3⟩; clear c0 c1 c2 c3 c4 c5 c6 c7 c8 c9 c10; have hb3' := hbx.out.trans (hb3.mono hbx.out.size); obtain ⟨q', o', hqe, c0, c1, c2, c3, c4, c5, c6, c7, c8, c9, c10⟩ := nd_at (hcell.out w3 k (hB.out.trans (hb3'.mono hB.out.size)) hkl) k hkl; cases hqe; rw [← hxe.out] at c0 c1 c2 c3 c4 c5 c6 c7 c8 c9 c10))
              have hb3'' : Hid (Below wo.heap.size wo w3) := hb3'
              go_roundw
              case rel => exact ⟨k + 1, true, bs, by omega, by go_num, rfl, rfl, hP2, hb3''⟩
              case measure => simp [intOf]; omega
            by_cases he : x.ref = bs
            · rw [decide_eq_false (show ¬ cmpL (numsS x.ref) (numsS bs) = -1 from fun h => bltS.ne h he)] at hls
              have hle : (x.ref.toList == bs.toList) = true := by rw [he]; simp
              replace hb : Hid (¬ bltS bs x.ref) := hb
              clear he
              go_wp2_with (first
                | (go_at_call 27; refine h27.mono ?_; clear h27; rintro e w3 ⟨rfl, hb3⟩; clear c0 c1 c2 c3 c4 c5 c6 c7 c8 c9 c10; have hb3' := hbx.out.trans (hb3.mono hbx.out.size); obtain ⟨q', o', hqe, c0, c1, c2, c3, c4, c5, c6, c7, c8, c9, c10⟩ := nd_at (hcell.out w3 k (hB.out.trans (hb3'.mono hB.out.size)) hkl) k hkl; cases hqe; rw [← hxe.out] at c0 c1 c2 c3 c4 c5 c6 c7 c8 c9 c10; have h13 := hi13.out w3 hb3')
                | (go_at_call 13; refine h13.mono ?_; clear h13; rintro e w4 ⟨a4, n4, cI, rfl, h4⟩))
              have hb4 : Hid (Below wo.heap.size wo w4) := hb3'.trans (h4.out.2.mono hb3'.size)
              have hI4 : Hid (Txs w4 (.slice a4 n4 cI) (inpN x)) := h4.out.1
              have hn4 : Hid (n4 = (inpN x).length) := h4.out.1.len
              have hn4l : n4 ≤ 1024 := by have := hn4.out; have := inpN_len x; omega
              clear c0 c1 c2 c3 c4 c5 c6 c7 c8 c9 c10 h4 hb3'
              go_loopw [8, 10] (fun f i wy => ∃ (j : Nat) (y : Bool), j ≤ n4 ∧ i = .int .i64 j ∧ f = .bool y ∧ Hid (y = true ↔ ∀ r ∈ (inpN x).take j, r ∈ T) ∧ Hid (Below w4.heap.size w4 wy)) (fun _ i _ => n4 - (intOf i).toNat)
              case atStart => exact ⟨0, true, Nat.zero_le _, rfl, rfl, ⟨fun _ r hr => by simp at hr, fun _ => rfl⟩, Below.refl _ _⟩
              case round =>
                obtain ⟨j, y, hj, rfl, rfl, hy, hby⟩ := hrel
                obtain ⟨wy, rfl⟩ : ∃ wy, wy = wr := ⟨_, rfl⟩
                by_cases hjn : j < n4
                · have hji : (j : Int) < (n4 : Int) := by omega
                  have hjl : j < (inpN x).length := by have := hn4.out; omega
                  obtain ⟨b5, o5, rfl, y0⟩ := tx_at (hI4.out.grow hby.out) j hjl
                  have h27 := hin27.out wy ((inpN x).getD j ⟨#[]⟩) (hb4.out.trans (hby.out.mono hb4.out.size))
                  have hnx : Hid (∀ z : Bool, z = decide ((inpN x).getD j ⟨#[]⟩ ∈ T) → ((y && z) = true ↔ ∀ r ∈ (inpN x).take (j + 1), r ∈ T)) := fun z hz => by
                    rw [hz, ltake_getD (inpN x) ⟨#[]⟩ j hjl, Bool.and_eq_true, hy.out, decide_eq_true_iff]
                    simp only [List.mem_append, List.mem_singleton]
                    constructor
                    · rintro ⟨h1, h2⟩ r (h | rfl)
                      · exact h1 r h
                      · exact h2
                    · intro h
                      exact ⟨fun r hr => h r (.inl hr), h _ (.inr rfl)⟩
                  generalize (inpN x).getD j ⟨#[]⟩ = rr at *
                  obtain ⟨z, hz⟩ : ∃ z, Hid (z = decide (rr ∈ T)) := ⟨_, rfl⟩
                  rw [← hz.out] at h27
                  replace hnx : Hid ((y && z) = true ↔ ∀ r ∈ (inpN x).take (j + 1), r ∈ T) := hnx.out z hz.out
                  cases y with
                  | false =>
                    have hnx2 : Hid (false = true ↔ ∀ r ∈ (inpN x).take (j + 1), r ∈ T) := by
                      have h := hnx.out
                      rw [Bool.false_and] at h
                      exact h
                    go_wp2
                    go_roundw
                    case rel => exact ⟨j + 1, false, by omega, by go_num, rfl, hnx2, hby⟩
                    case measure => simp [intOf]; omega
                  | true =>
                    have hnx2 : Hid (z = true ↔ ∀ r ∈ (inpN x).take (j + 1), r ∈ T) := by
                      have h := hnx.out
                      rw [Bool.true_and] at h
                      exact h
                    go_wp2_with (first
                      | (go_at_call 27; refine h27.mono ?_; clear h27; rintro e w5 ⟨rfl, hb5⟩))
                    have hb5' : Hid (Below w4.heap.size w4 w5) := hby.out.trans (hb5.mono hby.out.size)
                    go_roundw
                    case rel => exact ⟨j + 1, z, by omega, by go_num, rfl, hnx2, hb5'⟩
                    case measure => simp [intOf]; omega
                · have hji : ¬ (j : Int) < (n4 : Int) := by omega
                  have hye : Hid (y = true ↔ ∀ r ∈ inpN x, r ∈ T) := by
                    have := hy.out
                    rw [List.take_of_length_le (by have := hn4.out; omega)] at this
                    exact this
                  have hb6 : Hid (Below wo.heap.size wo wy) := hb4.out.trans (hby.out.mono hb4.out.size)
                  obtain ⟨q', o', hqe, c0, c1, c2, c3, c4, c5, c6, c7, c8, c9, c10⟩ := nd_at (hcell.out wy k (hB.out.trans (hb6.out.mono hB.out.size)) hkl) k hkl; cases hqe; rw [← hxe.out] at c0 c1 c2 c3 c4 c5 c6 c7 c8 c9 c10
                  cases y with
                  | false =>
                    have hP2 : Hid (PickI l T (k + 1) true bs) := hP.out.skip (.inl (by rw [← hxe.out]; exact fun h => by have := hye.out.2 h.2; cases this))
                    clear c0 c1 c2 c3 c4 c5 c6 c7 c8 c9 c10
                    go_wp2
                    go_roundw
                    case rel => exact ⟨k + 1, true, bs, by omega, by go_num, rfl, rfl, hP2, hb6⟩
                    case measure => simp [intOf]; omega
                  | true =>
                    have hP2 : Hid (PickI l T (k + 1) true x.ref) := by
                      have := hP.out.take hkl (by rw [← hxe.out]; exact ⟨hm.out, hye.out.1 rfl⟩) (by rw [← hxe.out]; exact fun _ => hb.out)
                      rw [← hxe.out] at this
                      exact this
                    go_wp2
                    go_roundw
                    case rel => exact ⟨k + 1, true, x.ref, by omega, by go_num, rfl, rfl, hP2, hb6⟩
                    case measure => simp [intOf]; omega
            · rw [decide_eq_true (show cmpL (numsS x.ref) (numsS bs) = -1 from (bltS_total he).resolve_right hb)] at hls
              have hle := toList_ne he
              replace hb : Hid (¬ bltS bs x.ref) := hb
              clear he
              go_wp2_with (first
                | (go_at_call 27; refine h27.mono ?_; clear h27; rintro e w3 ⟨rfl, hb3⟩; clear c0 c1 c2 c3 c4 c5 c6 c7 c8 c9 c10; have hb3' := hbx.out.trans (hb3.mono hbx.out.size); obtain ⟨q', o', hqe, c0, c1, c2, c3, c4, c5, c6, c7, c8, c9, c10⟩ := nd_at (hcell.out w3 k (hB.out.trans (hb3'.mono hB.out.size)) hkl) k hkl; cases hqe; rw [← hxe.out] at c0 c1 c2 c3 c4 c5 c6 c7 c8 c9 c10; have h13 := hi13.out w3 hb3')
                | (go_at_call 13; refine h13.mono ?_; clear h13; rintro e w4 ⟨a4, n4, cI, rfl, h4⟩))
              have hb4 : Hid (Below wo.heap.size wo w4) := hb3'.trans (h4.out.2.mono hb3'.size)
              have hI4 : Hid (Txs w4 (.slice a4 n4 cI) (inpN x)) := h4.out.1
              have hn4 : Hid (n4 = (inpN x).length) := h4.out.1.len
              have hn4l : n4 ≤ 1024 := by have := hn4.out; have := inpN_len x; omega
              clear c0 c1 c2 c3 c4 c5 c6 c7 c8 c9 c10 h4 hb3'
              go_loopw [8, 10] (fun f i wy => ∃ (j : Nat) (y : Bool), j ≤ n4 ∧ i = .int .i64 j ∧ f = .bool y ∧ Hid (y = true ↔ ∀ r ∈ (inpN x).take j, r ∈ T) ∧ Hid (Below w4.heap.size w4 wy)) (fun _ i _ => n4 - (intOf i).toNat)
              case atStart => exact ⟨0, true, Nat.zero_le _, rfl, rfl, ⟨fun _ r hr => by simp at hr, fun _ => rfl⟩, Below.refl _ _⟩
              case round =>
                obtain ⟨j, y, hj, rfl, rfl, hy, hby⟩ := hrel
                obtain ⟨wy, rfl⟩ : ∃ wy, wy = wr := ⟨_, rfl⟩
                by_cases hjn : j < n4
                · have hji : (j : Int) < (n4 : Int) := by omega
                  have hjl : j < (inpN x).length := by have := hn4.out; omega
                  obtain ⟨b5, o5, rfl, y0⟩ := tx_at (hI4.out.grow hby.out) j hjl
                  have h27 := hin27.out wy ((inpN x).getD j ⟨#[]⟩) (hb4.out.trans (hby.out.mono hb4.out.size))
                  have hnx : Hid (∀ z : Bool, z = decide ((inpN x).getD j ⟨#[]⟩ ∈ T) → ((y && z) = true ↔ ∀ r ∈ (inpN x).take (j + 1), r ∈ T)) := fun z hz => by
                    rw [hz, ltake_getD (inpN x) ⟨#[]⟩ j hjl, Bool.and_eq_true, hy.out, decide_eq_true_iff]
                    simp only [List.mem_append, List.mem_singleton]
                    constructor
                    · rintro ⟨h1, h2⟩ r (h | rfl)
                      · exact h1 r h
                      · exact h2
                    · intro h
                      exact ⟨fun r hr => h r (.inl hr), h _ (.inr rfl)⟩
                  generalize (inpN x).getD j ⟨#[]⟩ = rr at *
                  obtain ⟨z, hz⟩ : ∃ z, Hid (z = decide (rr ∈ T)) := ⟨_, rfl⟩
                  rw [← hz.out] at h27
                  replace hnx : Hid ((y && z) = true ↔ ∀ r ∈ (inpN x).take (j + 1), r ∈ T) := hnx.out z hz.out
                  cases y with
                  | false =>
                    have hnx2 : Hid (false = true ↔ ∀ r ∈ (inpN x).take (j + 1), r ∈ T) := by
                      have h := hnx.out
                      rw [Bool.false_and] at h
                      exact h
                    go_wp2
                    go_roundw
                    case rel => exact ⟨j + 1, false, by omega, by go_num, rfl, hnx2, hby⟩
                    case measure => simp [intOf]; omega
                  | true =>
                    have hnx2 : Hid (z = true ↔ ∀ r ∈ (inpN x).take (j + 1), r ∈ T) := by
                      have h := hnx.out
                      rw [Bool.true_and] at h
                      exact h
                    go_wp2_with (first
                      | (go_at_call 27; refine h27.mono ?_; clear h27; rintro e w5 ⟨rfl, hb5⟩))
                    have hb5' : Hid (Below w4.heap.size w4 w5) := hby.out.trans (hb5.mono hby.out.size)
                    go_roundw
                    case rel => exact ⟨j + 1, z, by omega, by go_num, rfl, hnx2, hb5'⟩
                    case measure => simp [intOf]; omega
                · have hji : ¬ (j : Int) < (n4 : Int) := by omega
                  have hye : Hid (y = true ↔ ∀ r ∈ inpN x, r ∈ T) := by
                    have := hy.out
                    rw [List.take_of_length_le (by have := hn4.out; omega)] at this
                    exact this
                  have hb6 : Hid (Below wo.heap.size wo wy) := hb4.out.trans (hby.out.mono hb4.out.size)
                  obtain ⟨q', o', hqe, c0, c1, c2, c3, c4, c5, c6, c7, c8, c9, c10⟩ := nd_at (hcell.out wy k (hB.out.trans (hb6.out.mono hB.out.size)) hkl) k hkl; cases hqe; rw [← hxe.out] at c0 c1 c2 c3 c4 c5 c6 c7 c8 c9 c10
                  cases y with
                  | false =>
                    have hP2 : Hid (PickI l T (k + 1) true bs) := hP.out.skip (.inl (by rw [← hxe.out]; exact fun h => by have := hye.out.2 h.2; cases this))
                    clear c0 c1 c2 c3 c4 c5 c6 c7 c8 c9 c10
                    go_wp2
                    go_roundw
                    case rel => exact ⟨k + 1, true, bs, by omega, by go_num, rfl, rfl, hP2, hb6⟩
                    case measure => simp [intOf]; omega
                  | true =>
                    have hP2 : Hid (PickI l T (k + 1) true x.ref) := by
                      have := hP.out.take hkl (by rw [← hxe.out]; exact ⟨hm.out, hye.out.1 rfl⟩) (by rw [← hxe.out]; exact fun _ => hb.out)
                      rw [← hxe.out] at this
                      exact this
                    go_wp2
                    go_roundw
                    case rel => exact ⟨k + 1, true, x.ref, by omega, by go_num, rfl, rfl, hP2, hb6⟩
                    case measure => simp [intOf]; omega
          | false =>
            clear hls
            go_wp2_with (first
              | (go_at_call 27; refine h27.mono ?_; clear h27; rintro e w3 ⟨rfl, hb3⟩; clear c0 c1 c2 c3 c4 c5 c6 c7 c8 c9 c10; have hb3' := hbx.out.trans (hb3.mono hbx.out.size); obtain ⟨q', o', hqe, c0, c1, c2, c3, c4, c5, c6, c7, c8, c9, c10⟩ := nd_at (hcell.out w3 k (hB.out.trans (hb3'.mono hB.out.size)) hkl) k hkl; cases hqe; rw [← hxe.out] at c0 c1 c2 c3 c4 c5 c6 c7 c8 c9 c10; have h13 := hi13.out w3 hb3')
              | (go_at_call 13; refine h13.mono ?_; clear h13; rintro e w4 ⟨a4, n4, cI, rfl, h4⟩))
            have hb4 : Hid (Below wo.heap.size wo w4) := hb3'.trans (h4.out.2.mono hb3'.size)
            have hI4 : Hid (Txs w4 (.slice a4 n4 cI) (inpN x)) := h4.out.1
            have hn4 : Hid (n4 = (inpN x).length) := h4.out.1.len
            have hn4l : n4 ≤ 1024 := by have := hn4.out; have := inpN_len x; omega
            clear c0 c1 c2 c3 c4 c5 c6 c7 c8 c9 c10 h4 hb3'
            go_loopw [8, 10] (fun f i wy => ∃ (j : Nat) (y : Bool), j ≤ n4 ∧ i = .int .i64 j ∧ f = .bool y ∧ Hid (y = true ↔ ∀ r ∈ (inpN x).take j, r ∈ T) ∧ Hid (Below w4.heap.size w4 wy)) (fun _ i _ => n4 - (intOf i).toNat)
            case atStart => exact ⟨0, true, Nat.zero_le _, rfl, rfl, ⟨fun _ r hr => by simp at hr, fun _ => rfl⟩, Below.refl _ _⟩
            case round =>
              obtain ⟨j, y, hj, rfl, rfl, hy, hby⟩ := hrel
              obtain ⟨wy, rfl⟩ : ∃ wy, wy = wr := ⟨_, rfl⟩
              by_cases hjn : j < n4
              · have hji : (j : Int) < (n4 : Int) := by omega
                have hjl : j < (inpN x).length := by have := hn4.out; omega
                obtain ⟨b5, o5, rfl, y0⟩ := tx_at (hI4.out.grow hby.out) j hjl
                have h27 := hin27.out wy ((inpN x).getD j ⟨#[]⟩) (hb4.out.trans (hby.out.mono hb4.out.size))
                have hnx : Hid (∀ z : Bool, z = decide ((inpN x).getD j ⟨#[]⟩ ∈ T) → ((y && z) = true ↔ ∀ r ∈ (inpN x).take (j + 1), r ∈ T)) := fun z hz => by
                  rw [hz, ltake_getD (inpN x) ⟨#[]⟩ j hjl, Bool.and_eq_true, hy.out, decide_eq_true_iff]
                  simp only [List.mem_append, List.mem_singleton]
                  constructor
                  · rintro ⟨h1, h2⟩ r (h | rfl)
                    · exact h1 r h
                    · exact h2
                  · intro h
                    exact ⟨fun r hr => h r (.inl hr), h _ (.inr rfl)⟩
                generalize (inpN x).getD j ⟨#[]⟩ = rr at *
                obtain ⟨z, hz⟩ : ∃ z, Hid (z = decide (rr ∈ T)) := ⟨_, rfl⟩
                rw [← hz.out] at h27
                replace hnx : Hid ((y && z) = true ↔ ∀ r ∈ (inpN x).take (j + 1), r ∈ T) := hnx.out z hz.out
                cases y with
                | false =>
                  have hnx2 : Hid (false = true ↔ ∀ r ∈ (inpN x).take (j + 1), r ∈ T) := by
                    have h := hnx.out
                    rw [Bool.false_and] at h
                    exact h
                  go_wp2
                  go_roundw
                  case rel => exact ⟨j + 1, false, by omega, by go_num, rfl, hnx2, hby⟩
                  case measure => simp [intOf]; omega
                | true =>
                  have hnx2 : Hid (z = true ↔ ∀ r ∈ (inpN x).take (j + 1), r ∈ T) := by
                    have h := hnx.out
                    rw [Bool.true_and] at h
                    exact h
                  go_wp2_with (first
                    | (go_at_call 27; refine h27.mono ?_; clear h27; rintro e w5 ⟨rfl, hb5⟩))
                  have hb5' : Hid (Below w4.heap.size w4 w5) := hby.out.trans (hb5.mono hby.out.size)
                  go_roundw
                  case rel => exact ⟨j + 1, z, by omega, by go_num, rfl, hnx2, hb5'⟩
                  case measure => simp [intOf]; omega
              · have hji : ¬ (j : Int) < (n4 : Int) := by omega
                have hye : Hid (y = true ↔ ∀ r ∈ inpN x, r ∈ T) := by
                  have := hy.out
                  rw [List.take_of_length_le (by have := hn4.out; omega)] at this
                  exact this
                have hb6 : Hid (Below wo.heap.size wo wy) := hb4.out.trans (hby.out.mono hb4.out.size)
                obtain ⟨q', o', hqe, c0, c1, c2, c3, c4, c5, c6, c7, c8, c9, c10⟩ := nd_at (hcell.out wy k (hB.out.trans (hb6.out.mono hB.out.size)) hkl) k hkl; cases hqe; rw [← hxe.out] at c0 c1 c2 c3 c4 c5 c6 c7 c8 c9 c10
                cases y with
                | false =>
                  have hP2 : Hid (PickI l T (k + 1) false bs) := hP.out.skip (.inl (by rw [← hxe.out]; exact fun h => by have := hye.out.2 h.2; cases this))
                  clear c0 c1 c2 c3 c4 c5 c6 c7 c8 c9 c10
                  go_wp2
                  go_roundw
                  case rel => exact ⟨k + 1, false, bs, by omega, by go_num, rfl, rfl, hP2, hb6⟩
                  case measure => simp [intOf]; omega
                | true =>
                  have hP2 : Hid (PickI l T (k + 1) true x.ref) := by
                    have := hP.out.take hkl (by rw [← hxe.out]; exact ⟨hm.out, hye.out.1 rfl⟩) (by rw [← hxe.out]; exact fun h => by cases h)
                    rw [← hxe.out] at this
                    exact this
                  go_wp2
                  go_roundw
                  case rel => exact ⟨k + 1, true, x.ref, by omega, by go_num, rfl, rfl, hP2, hb6⟩
                  case measure => simp [intOf]; omega
        · have hki : ¬ (k : Int) < (n : Int) := by omega
          have hPe : Hid (PickI l T l.length fo bs) := by
            have := hP.out
            rw [show k = l.length by have := hn.out; omega] at this
            exact this
          have hBe : Hid (Below w.heap.size w wx) := hB.out.trans (hbx.out.mono hB.out.size)
          cases fo with
          | false =>
            have hrn : Hid (r = none) := hR.out.stuck (by have := hTl.out; have := hn.out; omega) hPe.out.none
            go_wp2
            go_ret2
            exact .inl ⟨hrn.out, rfl, hBe.out⟩
          | true =>
            obtain ⟨x, hx, hx1, rfl, hx2⟩ := hPe.out.least
            obtain ⟨L', hL'⟩ := hR.out.step hd.out hx hx1 hx2
            replace hL' : Hid (RemI l (T ++ [x.ref]) L' r) := hL'
            have hT2 : OwnT (wx.alloc (.cells #[.string x.ref] 9)) w.heap.size (.slice aT nT cT) T := (hT.out.stay hbx.out).alloc _
            have hs1 : Txs (wx.alloc (.cells #[.string x.ref] 9)) (.slice (some ⟨wx.heap.size, 0, none⟩) 1 1) [x.ref] := sls_one (E := encS) wx x.ref #[.string x.ref] 9 rfl
            have hB2 : Below w.heap.size w (wx.alloc (.cells #[.string x.ref] 9)) := hBe.out.trans ((bW0 wx _).mono hBe.out.size)
            have hll : T.length + [x.ref].length ≤ 1000000000 := by have := hTl.out; simp; omega
            have hl1 : Hid ((T ++ [x.ref]).length = nT + 1) := by show _ = _; rw [List.length_append, ← hTl.out]; rfl
            clear hx1 hx2 hP hPe
            go_wp2_with (first
              | (at_builtin; refine appR TS rfl (.tmp 71) (.tmp 73) rfl w.heap.size _ _ T [x.ref] rfl rfl hT2 hs1 hB2.size hll ?_; intro v5 w5 o5 g5; have hB5 := hB2.trans (hT2.grows hB2.size g5); obtain ⟨a5, c5, hv5⟩ := o5.shape; rw [hl1.out] at hv5; subst hv5; replace o5 : Hid _ := o5; replace hB5 : Hid _ := hB5))
            go_roundw
            case rel => exact ⟨a5, nT + 1, c5, T ++ [x.ref], L', rfl, by omega, o5, hL', hB5⟩
            case measure => simp [slen]; omega
    · have hlti : ¬ (nT : Int) < (n : Int) := by omega
      go_wp2
      go_ret2
      exact .inr ⟨aT, nT, cT, rfl, T, hR.out.done (by have := hTl.out; have := hn.out; omega), hT.out.sls, hB.out⟩
end Go.Proofs.YtaffplmfnincfaaGreatDoor
/- DagChecks: the document's Order is the program's. -/
namespace Go.Proofs.YtaffplmfnincfaaGreatDoor
set_option linter.unusedVariables false
open Go.RowKit
open Classical in
set_option maxRecDepth 100000 in
set_option maxHeartbeats 16000000 in
theorem rorder_dup (a : Option Addr) (n c : Nat) (l : List Nd) (w : World) (hv : Sls encN w (.slice a n c) l) (hl : n ≤ 1000) (hd : ¬ (l.map (·.ref)).Nodup) : Calls Tryz.prog 10 #[.slice a n c] w fun e w' => e = .returned (.tuple #[.slice none 0 0, .int .i64 8]) ∧ Below w.heap.size w w' := by
  have htw := twice26 a n c l w hv (by omega)
  rw [decide_eq_true hd] at htw
  clear hv hd
  go_enter Tryz.func10, Tryz.ntmps10
  go_wp2_with (first | (go_at_call 26; refine htw.mono ?_; clear htw; rintro e w1 ⟨rfl, hb1⟩))
  go_ret2
  exact ⟨rfl, hb1⟩
/-- The document's Order. -/
theorem rorder10 (a : Option Addr) (n c : Nat) (l : List Nd) (w : World) (hG : G w) (hS : SignsAt w) (hv : Sls encN w (.slice a n c) l) (hl : n ≤ 1000) (hp : ∀ x ∈ l, TPar x.text) : Calls Tryz.prog 10 #[.slice a n c] w fun e w' => ∃ a' n' c', e = .returned (.tuple #[.slice a' n' c', .int .i64 (ordE l)]) ∧ Hid (Txs w' (.slice a' n' c') (ordL l) ∧ Below w.heap.size w w') := by
  by_cases hd : (l.map (·.ref)).Nodup
  · obtain ⟨r, hr⟩ := ordT_ex hd
    refine (rorder_ok a n c l w hG hS hv hl hp hd r hr).mono ?_
    have e := ordN_is hr
    rintro e' w' (⟨rfl, rfl, hb⟩ | ⟨a', n', c', T, rfl, h⟩)
    · refine ⟨none, 0, 0, ?_, ?_, hb⟩
      · rw [ordE_d hd, e, if_pos rfl]
      · rw [ordL_d hd, e]
        exact sls_nil _
    · obtain ⟨rfl, h2, h3⟩ := h.out
      refine ⟨a', n', c', ?_, ?_, h3⟩
      · rw [ordE_d hd, e, if_neg (by simp)]
      · rw [ordL_d hd, e]
        exact h2
  · refine (rorder_dup a n c l w hv hl hd).mono ?_
    rintro e' w' ⟨rfl, hb⟩
    refine ⟨none, 0, 0, ?_, ?_, hb⟩
    · rw [ordE_n hd]
    · rw [ordL_n hd]
      exact sls_nil _
end Go.Proofs.YtaffplmfnincfaaGreatDoor
/- DagChecks: the document's Check, under what its Is does. -/
namespace Go.Proofs.YtaffplmfnincfaaGreatDoor
set_option linter.unusedVariables false
open Go.RowKit
theorem chk6 {c : ByteArray} {l : List Nd} (h : 16 < l.length) : chkN c l = 6 := by unfold chkN; rw [if_pos h]
theorem chk120 {c : ByteArray} {l : List Nd} (h1 : l.length ≤ 16) {x : Nd} (hx : x ∈ l) (hm : mayB x = false) : chkN c l = 120 := by
  unfold chkN
  rw [if_neg (by omega), if_pos]
  exact List.any_eq_true.2 ⟨x, hx, by rw [hm]; rfl⟩
theorem any_no {l : List Nd} (h2 : ∀ x ∈ l, mayB x = true) : ¬ l.any (fun x => !mayB x) = true := by
  have h6 : l.any (fun x => !mayB x) = false := List.any_eq_false.2 fun x hx => by rw [h2 x hx]; decide
  rw [h6]; decide
theorem chk8 {c : ByteArray} {l : List Nd} (h1 : l.length ≤ 16) (h2 : ∀ x ∈ l, mayB x = true) (hd : ¬ (l.map (·.ref)).Nodup) : chkN c l = 8 := by
  unfold chkN
  rw [if_neg (by omega), if_neg (any_no h2), if_pos hd]
theorem isR_mem {l : List Nd} {r : ByteArray} : IsR l r ↔ r ∈ l.map (·.ref) := by
  unfold IsR; rw [List.mem_map]
theorem chk7 {c : ByteArray} {l : List Nd} (h1 : l.length ≤ 16) (h2 : ∀ x ∈ l, mayB x = true) (hd : (l.map (·.ref)).Nodup) {r : ByteArray} (hr : r ∈ allI l ++ [c]) (hn : r ∉ l.map (·.ref)) : chkN c l = 7 := by
  unfold chkN
  rw [if_neg (by omega), if_neg (any_no h2), if_neg (fun h => h hd), if_pos]
  unfold thB
  rw [List.all_eq_false]
  refine ⟨r, hr, ?_⟩
  cases e : asc r (byN l) with
  | none => simp
  | some y => exact absurd (isR_mem.1 ((asc_is hd).1 (by rw [e]; simp))) hn
theorem chkO {c : ByteArray} {l : List Nd} (h1 : l.length ≤ 16) (h2 : ∀ x ∈ l, mayB x = true) (hd : (l.map (·.ref)).Nodup) (h3 : ∀ x ∈ l, ∀ r ∈ inpN x, r ∈ l.map (·.ref)) (h4 : c ∈ l.map (·.ref)) : chkN c l = ordE l := by
  unfold chkN
  rw [if_neg (by omega), if_neg (any_no h2), if_neg (fun h => h hd), if_neg, ordE_d hd]
  have ht : thB (byN l) (allI l ++ [c]) = true := by
    unfold thB
    rw [List.all_eq_true]
    intro r hr
    have hr2 : IsR l r := by
      rcases List.mem_append.1 hr with hr | hr
      · obtain ⟨x, hx, hxr⟩ := List.mem_flatMap.1 hr
        exact isR_mem.2 (h3 x hx r hxr)
      · rw [List.mem_singleton.1 hr]; exact isR_mem.2 h4
    have := (asc_is hd).2 hr2
    cases e : asc r (byN l) with
    | none => exact absurd e this
    | some y => rfl
  rw [ht]; decide
/-- What the document's Is does at a node. -/
def TIs (x : Nd) : Prop := ∀ w, G w → SignsAt w → Calls Tryz.prog 36 #[ndV x] w fun e w' => e = .returned (.bool (mayB x)) ∧ Below w.heap.size w w'
theorem all_upto {l : List Nd} {P : Nd → Prop} {k n : Nat} (hn : n = l.length) (hk : ¬ k < n) (h : ∀ i, i < k → i < l.length → P (l.getD i nd0)) : ∀ x ∈ l, P x := by
  intro x hx
  obtain ⟨i, hi, rfl⟩ := List.getElem_of_mem hx
  have := h i (by omega) hi
  rwa [List.getD_eq_getElem?_getD, List.getElem?_eq_getElem hi] at this
open Classical in
set_option maxRecDepth 100000 in
set_option maxHeartbeats 16000000 in
/-- The document's Check. -/
theorem rcheck16 (cn : ByteArray) (a : Option Addr) (n c : Nat) (l : List Nd) (w : World) (hG : G w) (hS : SignsAt w) (hv : Sls encN w (.slice a n c) l) (hl : n ≤ 1000) (hp : ∀ x ∈ l, TPar x.text) (hi : ∀ x ∈ l, TIs x) : Calls Tryz.prog 16 #[.string cn, .slice a n c] w fun e w' => e = .returned (.int .i64 (chkN cn l)) ∧ Below w.heap.size w w' := by
  have hn : Hid (n = l.length) := hv.len
  have hcell : Hid (∀ w', Below w.heap.size w w' → Sls encN w' (.slice a n c) l) := fun w' h => hv.grow h
  have hin : Hid (∀ w' i, Below w.heap.size w w' → i < l.length → Calls Tryz.prog 13 #[ndV (l.getD i nd0)] w' fun e w'' => ∃ a n c, e = .returned (.slice a n c) ∧ Hid (Txs w'' (.slice a n c) (inpN (l.getD i nd0)) ∧ Below w'.heap.size w' w'')) := fun w' i h hi => rinputs13 _ w' (hG.grow h) (hS.grow h) (hp _ (lgetD_mem l nd0 i hi))
  have his : Hid (∀ w' i, Below w.heap.size w w' → i < l.length → Calls Tryz.prog 36 #[ndV (l.getD i nd0)] w' fun e w'' => e = .returned (.bool (mayB (l.getD i nd0))) ∧ Below w'.heap.size w' w'') := fun w' i h hi' => hi _ (lgetD_mem l nd0 i hi') w' (hG.grow h) (hS.grow h)
  have hfi : Hid (∀ w' s, Below w.heap.size w w' → Calls Tryz.prog 37 #[.slice a n c, .string s] w' fun e w'' => e = .returned (.int .i64 (plc (l.map (·.ref)) s)) ∧ Below w'.heap.size w' w'') := fun w' s h => find37 a n c l s w' (hv.grow h) (by omega)
  have htw : Hid (∀ w', Below w.heap.size w w' → Calls Tryz.prog 26 #[.slice a n c] w' fun e w'' => e = .returned (.bool (decide (¬ (l.map (·.ref)).Nodup))) ∧ Below w'.heap.size w' w'') := fun w' h => twice26 a n c l w' (hv.grow h) (by omega)
  have hor : Hid (∀ w', Below w.heap.size w w' → Calls Tryz.prog 10 #[.slice a n c] w' fun e w'' => ∃ a' n' c', e = .returned (.tuple #[.slice a' n' c', .int .i64 (ordE l)]) ∧ Hid (Txs w'' (.slice a' n' c') (ordL l) ∧ Below w'.heap.size w' w'')) := fun w' h => rorder10 a n c l w' (hG.grow h) (hS.grow h) (hv.grow h) hl hp
  have hch : Hid (∀ E (W : World), chkN cn l = E → Below w.heap.size w W → (Ending.returned (.int .i64 E) = Ending.returned (.int .i64 (chkN cn l)) ∧ Below w.heap.size w W)) := fun E W h1 h2 => ⟨by rw [h1], h2⟩
  clear hv hp hi hG hS
  by_cases h16 : 16 < n
  · have h16i : (16 : Int) < (n : Int) := by omega
    have hE : Hid (chkN cn l = 6) := chk6 (by have := hn.out; omega)
    go_enter Tryz.func16, Tryz.ntmps16
    go_wp2
    go_ret
    exact hch.out _ _ hE.out (Below.refl _ _)
  · have h16i : ¬ (16 : Int) < (n : Int) := by omega
    have hle : Hid (l.length ≤ 16) := by have := hn.out; show _ ≤ _; omega
    go_enter Tryz.func16, Tryz.ntmps16
    go_wp2
    go_loopw [5] (fun i wr => ∃ k : Nat, k ≤ n ∧ i = .int .i64 k ∧ Hid (∀ i, i < k → i < l.length → mayB (l.getD i nd0) = true) ∧ Hid (Below w.heap.size w wr)) (fun i _ => n - (intOf i).toNat)
    case atStart => exact ⟨0, Nat.zero_le _, rfl, fun i h => absurd h (Nat.not_lt_zero _), Below.refl _ _⟩
    case round =>
      obtain ⟨k, hk, rfl, hal, hB⟩ := hrel
      obtain ⟨wo, rfl⟩ : ∃ wo, wo = wr := ⟨_, rfl⟩
      by_cases hlt : k < n
      · have hki : (k : Int) < (n : Int) := by omega
        have hkl : k < l.length := by have := hn.out; omega
        obtain ⟨q, o, rfl, c0, c1, c2, c3, c4, c5, c6, c7, c8, c9, c10⟩ := nd_at (hcell.out wo hB.out) k hkl
        have h36 := his.out wo k hB.out hkl
        have hxm := lgetD_mem l nd0 k hkl
        replace hxm : Hid (l.getD k nd0 ∈ l) := hxm
        obtain ⟨x, hxe⟩ : ∃ x, Hid (x = l.getD k nd0) := ⟨_, rfl⟩
        rw [← hxe.out] at c0 c1 c2 c3 c4 c5 c6 c7 c8 c9 c10 h36 hxm
        cases hmb : mayB x with
        | false =>
          have hE : Hid (chkN cn l = 120) := chk120 hle.out hxm.out hmb
          rw [hmb] at h36
          go_wp2_with (first
            | (go_at_call 36; refine h36.mono ?_; clear h36; rintro e w3 ⟨rfl, hb3⟩))
          go_ret
          exact hch.out _ _ hE.out (hB.out.trans (hb3.mono hB.out.size))
        | true =>
          have hal2 : Hid (∀ i, i < k + 1 → i < l.length → mayB (l.getD i nd0) = true) := fun i h1 h2 => by
            by_cases e : i = k
            · rw [e, ← hxe.out]; exact hmb
            · exact hal.out i (by omega) h2
          rw [hmb] at h36
          clear hmb
          go_wp2_with (first
            | (go_at_call 36; refine h36.mono ?_; clear h36; rintro e w3 ⟨rfl, hb3⟩))
          have hB3 : Hid (Below w.heap.size w w3) := hB.out.trans (hb3.mono hB.out.size)
          go_roundw
          case rel => exact ⟨k + 1, by omega, by go_num, hal2, hB3⟩
          case measure => simp [intOf]; omega
      · have hki : ¬ (k : Int) < (n : Int) := by omega
        have hall : Hid (∀ x ∈ l, mayB x = true) := all_upto (P := fun x => mayB x = true) hn.out hlt hal.out
        have h26 := htw.out wo hB.out
        by_cases hd : (l.map (·.ref)).Nodup
        · rw [decide_eq_false (fun h => h hd)] at h26
          replace hd : Hid ((l.map (·.ref)).Nodup) := hd
          go_wp2_with (first
            | (go_at_call 26; refine h26.mono ?_; clear h26; rintro e w4 ⟨rfl, hb4⟩; have hB4 : Hid (Below w.heap.size w w4) := hB.out.trans (hb4.mono hB.out.size); clear hb4))
          clear hlt hki hk hal
          go_loopw [6] (fun i wr => ∃ k : Nat, k ≤ n ∧ i = .int .i64 k ∧ Hid (∀ i, i < k → i < l.length → ∀ r ∈ inpN (l.getD i nd0), r ∈ l.map (·.ref)) ∧ Hid (Below w.heap.size w wr)) (fun i _ => n - (intOf i).toNat)
          case atStart => exact ⟨0, Nat.zero_le _, rfl, fun i h => absurd h (Nat.not_lt_zero _), hB4⟩
          case round =>
            obtain ⟨k, hk, rfl, hal, hB⟩ := hrel
            obtain ⟨wx, rfl⟩ : ∃ wx, wx = wr := ⟨_, rfl⟩
            by_cases hlt : k < n
            · have hki : (k : Int) < (n : Int) := by omega
              have hkl : k < l.length := by have := hn.out; omega
              obtain ⟨q, o, rfl, c0, c1, c2, c3, c4, c5, c6, c7, c8, c9, c10⟩ := nd_at (hcell.out wx hB.out) k hkl
              have h13 := hin.out wx k hB.out hkl
              have hxm := lgetD_mem l nd0 k hkl
              replace hxm : Hid (l.getD k nd0 ∈ l) := hxm
              obtain ⟨x, hxe⟩ : ∃ x, Hid (x = l.getD k nd0) := ⟨_, rfl⟩
              rw [← hxe.out] at c0 c1 c2 c3 c4 c5 c6 c7 c8 c9 c10 h13 hxm
              go_wp2_with (first
                | (go_at_call 13; refine h13.mono ?_; clear h13; rintro e w5 ⟨a5, n5, c5', rfl, h5⟩))
              have hB5 : Hid (Below w.heap.size w w5) := hB.out.trans (h5.out.2.mono hB.out.size)
              have hI5 : Hid (Txs w5 (.slice a5 n5 c5') (inpN x)) := h5.out.1
              have hn5 : Hid (n5 = (inpN x).length) := h5.out.1.len
              have hn5l : n5 ≤ 1024 := by have := hn5.out; have := inpN_len x; omega
              clear c0 c1 c2 c3 c4 c5 c6 c7 c8 c9 c10 h5
              go_loopw [8] (fun i wy => ∃ j : Nat, j ≤ n5 ∧ i = .int .i64 j ∧ Hid (∀ r ∈ (inpN x).take j, r ∈ l.map (·.ref)) ∧ Hid (Below w5.heap.size w5 wy)) (fun i _ => n5 - (intOf i).toNat)
              case atStart => exact ⟨0, Nat.zero_le _, rfl, fun r hr => by simp at hr, Below.refl _ _⟩
              case round =>
                obtain ⟨j, hj, rfl, hy, hby⟩ := hrel
                obtain ⟨wy, rfl⟩ : ∃ wy, wy = wr := ⟨_, rfl⟩
                have hBy : Hid (Below w.heap.size w wy) := hB5.out.trans (hby.out.mono hB5.out.size)
                by_cases hjn : j < n5
                · have hji : (j : Int) < (n5 : Int) := by omega
                  have hjl : j < (inpN x).length := by have := hn5.out; omega
                  obtain ⟨b6, o6, rfl, y0⟩ := tx_at (hI5.out.grow hby.out) j hjl
                  have h37 := hfi.out wy ((inpN x).getD j ⟨#[]⟩) hBy.out
                  have hrm : Hid ((inpN x).getD j ⟨#[]⟩ ∈ inpN x) := lgetD_mem (inpN x) ⟨#[]⟩ j hjl
                  have hnx : Hid ((inpN x).getD j ⟨#[]⟩ ∈ l.map (·.ref) → ∀ r ∈ (inpN x).take (j + 1), r ∈ l.map (·.ref)) := fun h => by
                    rw [ltake_getD (inpN x) ⟨#[]⟩ j hjl]
                    intro r hr
                    rcases List.mem_append.1 hr with hr | hr
                    · exact hy.out r hr
                    · rw [List.mem_singleton.1 hr]; exact h
                  generalize (inpN x).getD j ⟨#[]⟩ = rr at *
                  by_cases hm : rr ∈ l.map (·.ref)
                  · have hpl := (plc_in hm).1
                    have hnx2 : Hid (∀ r ∈ (inpN x).take (j + 1), r ∈ l.map (·.ref)) := hnx.out hm
                    generalize plc (l.map (·.ref)) rr = P at *
                    have hpi : ¬ P < 0 := by omega
                    clear hm
                    go_wp2_with (first
                      | (go_at_call 37; refine h37.mono ?_; clear h37; rintro e w7 ⟨rfl, hb7⟩))
                    have hB7 : Hid (Below w5.heap.size w5 w7) := hby.out.trans (hb7.mono hby.out.size)
                    go_roundw
                    case rel => exact ⟨j + 1, by omega, by go_num, hnx2, hB7⟩
                    case measure => simp [intOf]; omega
                  · have hE : Hid (chkN cn l = 7) := chk7 hle.out hall.out hd.out (List.mem_append.2 (.inl (List.mem_flatMap.2 ⟨x, hxm.out, hrm.out⟩))) hm
                    rw [plc_no hm] at h37
                    clear hm
                    go_wp2_with (first
                      | (go_at_call 37; refine h37.mono ?_; clear h37; rintro e w7 ⟨rfl, hb7⟩))
                    go_ret
                    exact hch.out _ _ hE.out (hBy.out.trans (hb7.mono hBy.out.size))
                · have hji : ¬ (j : Int) < (n5 : Int) := by omega
                  have hal2 : Hid (∀ i, i < k + 1 → i < l.length → ∀ r ∈ inpN (l.getD i nd0), r ∈ l.map (·.ref)) := fun i h1 h2 => by
                    by_cases e : i = k
                    · rw [e, ← hxe.out]
                      have := hy.out
                      rw [List.take_of_length_le (by have := hn5.out; omega)] at this
                      exact this
                    · exact hal.out i (by omega) h2
                  go_wp2
                  go_roundw
                  case rel => exact ⟨k + 1, by omega, by go_num, hal2, hBy⟩
                  case measure => simp [intOf]; omega
            · have hki : ¬ (k : Int) < (n : Int) := by omega
              have hins : Hid (∀ x ∈ l, ∀ r ∈ inpN x, r ∈ l.map (·.ref)) := all_upto (P := fun x : Nd => ∀ r ∈ inpN x, r ∈ l.map (fun y : Nd => y.ref)) hn.out hlt hal.out
              have h37 := hfi.out wx cn hB.out
              by_cases hm : cn ∈ l.map (·.ref)
              · have hE : Hid (chkN cn l = ordE l) := chkO hle.out hall.out hd.out hins.out hm
                have hpl := (plc_in hm).1
                generalize plc (l.map (·.ref)) cn = P at *
                have hpi : ¬ P < 0 := by omega
                clear hm
                go_wp2_with (first
                  | (go_at_call 37; refine h37.mono ?_; clear h37; rintro e w7 ⟨rfl, hb7⟩; have hB7 := hB.out.trans (hb7.mono hB.out.size); have h10 := hor.out w7 hB7; replace hB7 : Hid (Below w.heap.size w w7) := hB7)
                  | (go_at_call 10; refine h10.mono ?_; clear h10; rintro e w8 ⟨a8, n8, c8', rfl, h8⟩))
                go_ret
                exact hch.out _ _ hE.out (hB7.out.trans (h8.out.2.mono hB7.out.size))
              · have hE : Hid (chkN cn l = 7) := chk7 hle.out hall.out hd.out (by simp) hm
                rw [plc_no hm] at h37
                clear hm
                go_wp2_with (first
                  | (go_at_call 37; refine h37.mono ?_; clear h37; rintro e w7 ⟨rfl, hb7⟩))
                go_ret
                exact hch.out _ _ hE.out (hB.out.trans (hb7.mono hB.out.size))
        · rw [decide_eq_true hd] at h26
          have hE : Hid (chkN cn l = 8) := chk8 hle.out hall.out hd
          clear hd
          go_wp2_with (first
            | (go_at_call 26; refine h26.mono ?_; clear h26; rintro e w4 ⟨rfl, hb4⟩))
          go_ret
          exact hch.out _ _ hE.out (hB.out.trans (hb4.mono hB.out.size))
end Go.Proofs.YtaffplmfnincfaaGreatDoor
