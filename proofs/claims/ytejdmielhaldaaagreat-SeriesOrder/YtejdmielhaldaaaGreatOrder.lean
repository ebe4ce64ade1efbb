/-
  Of every list of series, and every points: in whatever order they are handed in, Sort is the same, and so are the least, the greatest and how many.
-/
import Derived.Test.YtejdmielhaldaaaGreatRows
import Derived.WalkKit
import Derived.ProofKit
import Derived.OpenShut
import Derived.ShutString
import Derived.ChangeOld
import Derived.Below
import Derived.SizedLaws
import Derived.Test.YtejdmielhaldaaaGreatTaTd
import Derived.Test.YtejdmielhaldaaaGreatOa
namespace Go.Proofs.YtejdmielhaldaaaGreat.seriesOrder
open Go.ChangeShapes Go.WideShapes Go.ChangeAt Go.RowKit
open Go.ChangeMaps (open_string shut_string)
set_option linter.unusedVariables false
theorem own : ownKnob Tryz.prog.godebug = none := by kernel_rfl
theorem laidOut : laidOutB Tryz.prog = true := by kernel_rfl
def how3 : List ByteArray := [⟨#[109, 105, 110]⟩, ⟨#[109, 97, 120]⟩, ⟨#[99, 111, 117, 110, 116]⟩]
theorem how3_way (k : Nat) (h : k < 3) : Way3 (how3.getD k ⟨#[]⟩) := by
  match k, h with
  | 0, _ => exact .inl rfl
  | 1, _ => exact .inr (.inl rfl)
  | 2, _ => exact .inr (.inr rfl)
theorem drop_rev {α : Type} (l : List α) (d : α) (k : Nat) (h : k < l.length) : (l.drop k).reverse = (l.drop (k + 1)).reverse ++ [l.getD k d] := by
  rw [List.drop_eq_getElem_cons h, List.reverse_cons, List.getD_eq_getElem?_getD, List.getElem?_eq_getElem h]
  rfl
set_option maxRecDepth 100000 in
set_option maxHeartbeats 16000000 in
/-- THE WALK. -/
theorem walk (a : Option Addr) (n c : Nat) (L : List Se) (a2 : Option Addr) (n2 c2 : Nat) (P : List Pn) (strict : Bool) (w : World) (hv : Srs w (.slice a n c) L) (hi : ∀ p ∈ L, SeIn w p) (hl : L.length ≤ 4398046511104) (hu : Pns w (.slice a2 n2 c2) P) (ht : True) (hp : P.length ≤ 5864062014634) :
    Calls Tryz.prog 5 #[.slice a n c, .slice a2 n2 c2, .bool strict] w fun e w' => e = .returned (.bool true) ∧ Below w.heap.size w w' := by
  have hlive := live_ok
  have hsm := small_ser _ L w hv (fun x hx => (hi x hx).1) (fun x hx => (hi x hx).2) hl
  obtain ⟨hS, hR⟩ := isSer_in hv hi
  have hn : n = L.length := by rw [hS.len, List.length_map]
  have hn2 : n2 = P.length := by obtain ⟨a', c', e⟩ := hu.shape; injection e
  rw [← hn] at hsm hl
  rw [← hn2] at hp
  have hmL : Hid (∀ k, k < n → L.getD k se0 ∈ L) := fun k hk => by rw [hn] at hk; rw [List.getD_eq_getElem?_getD, List.getElem?_eq_getElem hk]; exact List.getElem_mem hk
  replace hn : Hid (n = L.length) := hn
  replace hn2 : Hid (n2 = P.length) := hn2
  replace hv : Hid (Srs w (.slice a n c) L) := hv
  replace hu : Hid (Pns w (.slice a2 n2 c2) P) := hu
  replace hi : Hid (∀ p ∈ L, SeIn w p) := hi
  replace hS : Hid (IsSer w a n c (L.map serOf)) := hS
  replace hR : Hid (FR (L.map serOf)) := hR
  have hE := fun x W => enum_any x W
  go_enter Tryz.func5, Tryz.ntmps5
  by_cases hp6 : n2 ≤ 60
  case neg =>
    have hp6i : (60 : Int) < (n2 : Int) := by omega
    go_wp2_with (first
      | (go_at_call 13; refine hsm.mono ?_; rintro e w1 ⟨B, rfl, hB60, hb1⟩; cases B)
      | (go_at_call 9; refine (hlive _).mono ?_; rintro e w2 ⟨rfl, hb2⟩))
    all_goals
      go_ret
      exact ⟨rfl, hb1.trans (hb2.mono hb1.size)⟩
  case pos =>
    have hp6i : ¬ (60 : Int) < (n2 : Int) := by omega
    go_wp2_with (first
      | (go_at_call 13; refine hsm.mono ?_; rintro e w1 ⟨B, rfl, hB60, hb1⟩; cases B)
      | (go_at_call 9; refine (hlive _).mono ?_; rintro e w2 ⟨rfl, hb2⟩))
    · go_ret
      exact ⟨rfl, hb1.trans (hb2.mono hb1.size)⟩
    · have hn6 : n ≤ 60 := hB60 trivial
      clear hB60 hsm hl hp hp6i
      go_wp2
      -- the series, from behind
      go_loopw [7, 8] (fun z i wr => ∃ k : Nat, k ≤ n ∧ i = .int .i64 ((k : Int) - 1) ∧ Hid (OwnR wr w1.heap.size z ((L.drop k).reverse)) ∧ Hid (Below w1.heap.size w1 wr)) (fun _ i _ => (intOf i + 1).toNat)
      case atStart => exact ⟨n, Nat.le_refl _, rfl, by rw [hn.out, List.drop_length]; exact OwnS.nil _ _, Below.refl _ _⟩
      case round =>
        obtain ⟨k, hk, rfl, ho, hB⟩ := hrel
        have hBd := hB.out
        by_cases hk0 : 0 < k
        · obtain ⟨j, rfl⟩ : ∃ j, k = j + 1 := ⟨k - 1, by omega⟩
          have hji : (((j + 1 : Nat) : Int) - 1) = (j : Int) := by omega
          rw [hji]
          have hj0 : (0 : Int) ≤ (j : Int) := by omega
          have hjn : (j : Int) < (n : Int) := by omega
          have hjL : j < L.length := by rw [← hn.out]; omega
          have hbw := hb1.trans (hBd.mono hb1.size)
          obtain ⟨b, o, rfl, x0, x1, x2⟩ := sr_at (Sls.grow hv.out hbw) j hjL
          have hdr : Hid ((L.drop j).reverse = (L.drop (j + 1)).reverse ++ [L.getD j se0]) := drop_rev L se0 j hjL
          generalize L.getD j se0 = x at *
          have hlen : ((L.drop (j + 1)).reverse).length + 1 ≤ 1000000000 := by rw [List.length_reverse, List.length_drop, ← hn.out]; omega
          have ho1 := ho.out.alloc (.cells #[.slice x.a x.n x.c, .int .i64 x.v.kind, .int .i64 x.v.n] 49)
          have hs1 := sls_one (E := encR) wr x #[.slice x.a x.n x.c, .int .i64 x.v.kind, .int .i64 x.v.n] 49 rfl
          have hb2 := hBd.alloc hBd.size (.cells #[.slice x.a x.n x.c, .int .i64 x.v.kind, .int .i64 x.v.n] 49)
          generalize (L.drop (j + 1)).reverse = K at *
          go_wp2_with (first
            | (at_builtin; refine appR TR rfl (.tmp 39) (.tmp 44) rfl w1.heap.size _ _ K [x] rfl rfl ho1 hs1 hb2.size hlen ?_; intro v5 w5 ho5 hg5))
          refine ⟨⟨j, by omega, by first | rfl | go_num, by rw [hdr.out]; exact ho5, hb2.trans (ho1.grows hb2.size hg5)⟩, ?_⟩
          simp [intOf]
        · obtain rfl : k = 0 := by omega
          have hji : ¬ (0 : Int) ≤ ((0 : Nat) : Int) - 1 := by omega
          have hoB : Hid (OwnR wr w1.heap.size u7 L.reverse) := by have := ho.out; rw [List.drop_zero] at this; exact this
          clear ho
          have hBw := hb1.trans (hBd.mono hb1.size)
          go_wp2
          generalize wr = wa at *
          clear hBd hB
          -- the points, from behind
          go_loopw [9, 10] (fun z i wr => ∃ k : Nat, k ≤ n2 ∧ i = .int .i64 ((k : Int) - 1) ∧ Hid (OwnP wr wa.heap.size z ((P.drop k).reverse)) ∧ Hid (Below wa.heap.size wa wr)) (fun _ i _ => (intOf i + 1).toNat)
          case atStart => exact ⟨n2, Nat.le_refl _, rfl, by rw [hn2.out, List.drop_length]; exact OwnS.nil _ _, Below.refl _ _⟩
          case round =>
            obtain ⟨k, hk, rfl, ho, hB⟩ := hrel
            have hBd := hB.out
            by_cases hk0 : 0 < k
            · obtain ⟨j, rfl⟩ : ∃ j, k = j + 1 := ⟨k - 1, by omega⟩
              have hji : (((j + 1 : Nat) : Int) - 1) = (j : Int) := by omega
              rw [hji]
              have hj0 : (0 : Int) ≤ (j : Int) := by omega
              have hjn : (j : Int) < (n2 : Int) := by omega
              have hjL : j < P.length := by rw [← hn2.out]; omega
              have hbw := hBw.trans (hBd.mono hBw.size)
              obtain ⟨b, o, rfl, x0, x1, x2⟩ := pn_at (Sls.grow hu.out hbw) j hjL
              have hdr : Hid ((P.drop j).reverse = (P.drop (j + 1)).reverse ++ [P.getD j pn0]) := drop_rev P pn0 j hjL
              generalize P.getD j pn0 = x at *
              have hlen : ((P.drop (j + 1)).reverse).length + 1 ≤ 1000000000 := by rw [List.length_reverse, List.length_drop, ← hn2.out]; omega
              have ho1 := ho.out.alloc (.cells #[.int .i64 x.at', .int .i64 x.v.kind, .int .i64 x.v.n] 51)
              have hs1 := sls_one (E := encP) wr x #[.int .i64 x.at', .int .i64 x.v.kind, .int .i64 x.v.n] 51 rfl
              have hb2 := hBd.alloc hBd.size (.cells #[.int .i64 x.at', .int .i64 x.v.kind, .int .i64 x.v.n] 51)
              generalize (P.drop (j + 1)).reverse = K at *
              go_wp2_with (first
                | (at_builtin; refine appR TP rfl (.tmp 53) (.tmp 58) rfl wa.heap.size _ _ K [x] rfl rfl ho1 hs1 hb2.size hlen ?_; intro v5 w5 ho5 hg5))
              refine ⟨⟨j, by omega, by first | rfl | go_num, by rw [hdr.out]; exact ho5, hb2.trans (ho1.grows hb2.size hg5)⟩, ?_⟩
              simp [intOf]
            · obtain rfl : k = 0 := by omega
              have hji : ¬ (0 : Int) ≤ ((0 : Nat) : Int) - 1 := by omega
              have hoP : OwnP wr wa.heap.size u9 P.reverse := by have := ho.out; rw [List.drop_zero] at this; exact this
              clear ho
              have hB2 := hBw.trans (hBd.mono hBw.size)
              have hoB2 := OwnS.stay hoB.out hBd
              obtain ⟨a7, c7, e7⟩ := hoB2.shape
              obtain ⟨a9, c9, e9⟩ := hoP.shape
              rw [List.length_reverse, ← hn.out] at e7
              rw [List.length_reverse, ← hn2.out] at e9
              subst e7 e9
              have hSb : Hid (IsSer wr a7 n c7 ((L.map serOf).reverse)) := ⟨L.reverse, by rw [List.length_reverse]; exact hn.out, hoB2.sls, fun x hx => (hi.out x (by simpa using hx)).1.grow hB2, by simp⟩
              have hSa : Hid (IsSer wr a n c (L.map serOf)) := hS.out.grow hB2
              have hPa : Hid (Pns wr (.slice a2 n2 c2) P) := Sls.grow hu.out hB2
              have hPb : Hid (Pns wr (.slice a9 n2 c9) P.reverse) := hoP.sls
              have hRb : Hid (FR ((L.map serOf).reverse)) := fun s hs => hR.out s (by simpa using hs)
              generalize wr = w2 at *
              clear hoP hoB2 hoB hBd hB hBw hb1 hS hu hv hi hmL
              have hL := fun x W (h0 : -1000 ≤ x) (h1 : x ≤ 1000) => lnum_any x W h0 h1
              generalize L.map serOf = F at *
              by_cases hq : ∃ out, Series10.SortQ F out 0
              case' pos =>
                obtain ⟨F', hq⟩ := hq
                have hqr : Hid (Series10.SortQ F.reverse F' 0) := hq.perm (List.reverse_perm F).symm
                have hf' : Hid (Series10.IsFrame F') := (hq.frame rfl).1
                have hq' : Hid (Series10.SortQ F' F' 0) := hf'.out.sort
                have hs1 : Hid (∀ s ∈ F', s.labels.length ≤ 1000000) := fun s hs => by have := (hf'.out.1 s hs).2.2; omega
                replace hq : Hid (Series10.SortQ F F' 0) := hq
                go_wp2_with (first
                  | (go_at_call 15; (with_reducible refine (ownF hSa.out hR.out (by omega)).mono ?_); rintro e w3 ⟨a3, c3, rfl, h3⟩; have g3 := h3.out.2; have hso1 := sortF h3.out.1 hR.out (by omega) hq.out)
                  | (go_at_call 14; (with_reducible refine hso1.mono ?_); rintro e w4 ⟨a4, c4, rfl, h4⟩; have g4 := g3.trans (h4.out.2.mono g3.size); have hSb4 := hSb.out.grow g4; have hS4 := h4.out.1)
                  | (go_at_call 15; (with_reducible refine (ownF hSb4 hRb.out (by omega)).mono ?_); rintro e w5 ⟨a5, c5, rfl, h5⟩; have g5 := g4.trans (h5.out.2.mono g4.size); have f5 := h5.out.2; have hso2 := sortF h5.out.1 hRb.out (by omega) hqr.out)
                  | (go_at_call 14; (with_reducible refine hso2.mono ?_); rintro e w6 ⟨a6, c6, rfl, h6⟩; have g6 := g5.trans (h6.out.2.mono g5.size); have f6 := f5.trans (h6.out.2.mono f5.size); have hS6 := h6.out.1; have hS46 := hS4.grow f6)
                  | (go_at_call 15; (with_reducible refine (ownF hS46 (FR.frame hf'.out) (by omega)).mono ?_); rintro e w7 ⟨a7', c7', rfl, h7⟩; have g7 := g6.trans (h7.out.2.mono g6.size); have f7 := h7.out.2; have hso3 := sortF h7.out.1 (FR.frame hf'.out) (by omega) hq'.out)
                  | (go_at_call 14; (with_reducible refine hso3.mono ?_); rintro e w8 ⟨a8, c8, rfl, h8⟩; have g8 := g7.trans (h8.out.2.mono g7.size); have f8 := f7.trans (h8.out.2.mono f7.size); have hS8 := h8.out.1; have hsa := sameF (hS46.grow f8) (hS6.grow f8) (FR.frame hf'.out) (FR.frame hf'.out) hs1.out hs1.out (by omega) (by omega); rw [decide_eq_true rfl] at hsa)
                  | (go_at_call 21; (with_reducible refine hsa.mono ?_); rintro e w9 ⟨rfl, hb9⟩; have g9 := g8.trans (hb9.mono g8.size); have f9 := f8.trans (hb9.mono f8.size); have hsb := sameF (hS46.grow f9) (hS8.grow hb9) (FR.frame hf'.out) (FR.frame hf'.out) hs1.out hs1.out (by omega) (by omega); rw [decide_eq_true rfl] at hsb)
                  | (go_at_call 12; refine (hL 0 _ (by omega) (by omega)).mono ?_; rintro e w' ⟨rfl, rfl⟩)
                  | (go_at_call 21; (with_reducible refine hsb.mono ?_); rintro e w10 ⟨rfl, hb10⟩; have g10 := g9.trans (hb10.mono g9.size)))
                clear hso1 hso2 hso3 hsa hsb hSb4 hS4 hS6 hS46 hS8 g3 g4 g5 g6 g7 g8 g9 f5 f6 f7 f8 f9 hb9 hb10
              case' neg =>
                have hqr : Hid (¬ ∃ out, Series10.SortQ F.reverse out 0) := fun ⟨o, h⟩ => hq ⟨o, h.perm (List.reverse_perm F)⟩
                have hone : Hid (∀ e1 e2, Series10.SortQ F [] e1 → Series10.SortQ F.reverse [] e2 → e2 = e1) := fun e1 e2 h1 h2 => ((h2.perm (List.reverse_perm F)).one h1).2
                have hnl : Hid (∀ W, IsSer W none 0 0 []) := fun W => ⟨[], rfl, (OwnS.nil (T := TR) W 0).sls, (fun x hx => by cases hx), rfl⟩
                have hRn : Hid (FR []) := fun s hs => by cases hs
                have hqn : Hid (Series10.SortQ [] [] 0) := Series10.IsFrame.sort ⟨(fun a ha => by cases ha), (fun a ha => by cases ha), List.Pairwise.nil, by simp⟩
                replace hq : Hid (¬ ∃ out, Series10.SortQ F out 0) := hq
                go_wp2_with (first
                  | (go_at_call 15; (with_reducible refine (ownF hSa.out hR.out (by omega)).mono ?_); rintro e w3 ⟨a3, c3, rfl, h3⟩; have g3 := h3.out.2; have hso1 := sortF_no h3.out.1 hR.out (by omega) hq.out)
                  | (go_at_call 14; (with_reducible refine hso1.mono ?_); rintro e w4 ⟨er, rfl, hne, hqe, hb4⟩; have g4 := g3.trans (hb4.mono g3.size); have hSb4 := hSb.out.grow g4)
                  | (go_at_call 15; (with_reducible refine (ownF hSb4 hRb.out (by omega)).mono ?_); rintro e w5 ⟨a5, c5, rfl, h5⟩; have g5 := g4.trans (h5.out.2.mono g4.size); have hso2 := sortF_no h5.out.1 hRb.out (by omega) hqr.out)
                  | (go_at_call 14; (with_reducible refine hso2.mono ?_); rintro e w6 ⟨er2, rfl, hne2, hqe2, hb6⟩; obtain rfl := hone.out _ _ hqe.out hqe2.out; have g6 := g5.trans (hb6.mono g5.size); have hN6 := hnl.out w6; have hne3 : (er2 == 0) = false := (by simpa using hne))
                  | (go_at_call 15; (with_reducible refine (ownF hN6 hRn.out (by omega)).mono ?_); rintro e w7 ⟨a7', c7', rfl, h7⟩; have g7 := g6.trans (h7.out.2.mono g6.size); have hso3 := sortF h7.out.1 hRn.out (by omega) hqn.out)
                  | (go_at_call 14; (with_reducible refine hso3.mono ?_); rintro e w8 ⟨a8, c8, rfl, h8⟩; have g8 := g7.trans (h8.out.2.mono g7.size); have hsa := sameF (hnl.out w8) (hnl.out w8) hRn.out hRn.out (fun s hs => by cases hs) (fun s hs => by cases hs) (by omega) (by omega); rw [decide_eq_true rfl] at hsa)
                  | (go_at_call 21; (with_reducible refine hsa.mono ?_); rintro e w10 ⟨rfl, hb10⟩; have g10 := g8.trans (hb10.mono g8.size))
                  | (go_at_call 12; refine (hE er2 w10).mono ?_; rintro e w11 ⟨rfl, hb11⟩; have g11 := g10.trans (hb11.mono g10.size); replace g10 := g11; generalize w11 = w10 at *))
                clear hso1 hso2 hso3 hsa hSb4 hN6 g3 g4 g5 g6 g7 g8
              all_goals
                have hB10 := hB2.trans (g10.mono hB2.size)
                have hrow := sls_flat (E := encS) w10 how3 #[.string ⟨#[109, 105, 110]⟩, .string ⟨#[109, 97, 120]⟩, .string ⟨#[99, 111, 117, 110, 116]⟩] 9 rfl
                have bR := bW0 w10 (.cells #[.string ⟨#[109, 105, 110]⟩, .string ⟨#[109, 97, 120]⟩, .string ⟨#[99, 111, 117, 110, 116]⟩] 9)
                have hP1 : Hid _ := Sls.grow (Sls.grow hPa.out g10) bR
                have hP2 : Hid _ := Sls.grow (Sls.grow hPb.out g10) bR
                have hBR : Hid _ := hB10.trans (bR.mono hB10.size)
                replace hrow : Hid _ := hrow
                clear hSa hSb hPa hPb g10 hB10 bR
                generalize w10.alloc (.cells #[.string ⟨#[109, 105, 110]⟩, .string ⟨#[109, 97, 120]⟩, .string ⟨#[99, 111, 117, 110, 116]⟩] 9) = WR at *
                go_loopw [18] (fun i wr => ∃ k : Nat, k ≤ 3 ∧ i = .int .i64 k ∧ Hid (Below WR.heap.size WR wr)) (fun i _ => 3 - (intOf i).toNat)
                case atStart => exact ⟨0, Nat.zero_le _, rfl, Below.refl _ _⟩
                case round =>
                  obtain ⟨k, hk, rfl, hB⟩ := hrel
                  have hBd := hB.out
                  by_cases hlt : k < 3
                  · have hki : (k : Int) < 3 := by omega
                    obtain ⟨bg, og, e, x0⟩ := tx_at (Sls.grow hrow.out hBd) k hlt
                    cases e
                    simp only [Nat.zero_add] at x0
                    have hw := how3_way k hlt
                    generalize how3.getD k ⟨#[]⟩ = how at *
                    have hr1 := reduce_any how strict _ P wr (Sls.grow hP1.out hBd) (by rw [← hn2.out]; omega)
                    have hxk : Hid (∀ W, Below wr.heap.size wr W → W.cell? ⟨w10.heap.size, k, none⟩ = some (.string how)) := fun W h => (h.cell (p := ⟨w10.heap.size, k, none⟩) (World.block_lt_of_cell? wr _ x0)).trans x0
                    have hr2 : Hid (∀ W, Below WR.heap.size WR W → Calls Tryz.prog 10 #[.string how, .bool strict, .slice a9 n2 c9] W fun e w' => e = .returned (.tuple #[vlV (reduV how strict P), .int .i64 (redE how P)]) ∧ Below W.heap.size W w') := fun W h => by
                      have := reduce_any how strict _ P.reverse W (Sls.grow hP2.out h) (by rw [List.length_reverse, ← hn2.out]; omega)
                      rw [reduV_rev hw, redE_rev] at this
                      exact this
                    generalize reduV how strict P = R at *
                    generalize redE how P = E at *
                    unfold vlV at hr1 hr2
                    clear hw
                    go_wp2_with (first
                      | (go_at_call 10; (with_reducible refine hr1.mono ?_); rintro e w12 ⟨rfl, hb12⟩; have hq12 := hb12.alloc hb12.size (.cells #[.int .i64 R.kind, .int .i64 R.n] 25); have hB12 := hBd.trans (hq12.mono hBd.size); have x1 := hxk.out _ hq12; have hr3 := hr2.out _ hB12; have hv12 : VlAt (w12.alloc (.cells #[.int .i64 R.kind, .int .i64 R.n] 25)) w12.heap.size R := vlNew w12 R)
                      | (go_at_call 10; (with_reducible refine hr3.mono ?_); rintro e w13 ⟨rfl, hb13⟩; have hq13 := hb13.alloc hb13.size (.cells #[.int .i64 R.kind, .int .i64 R.n] 25); have hB13 := hB12.trans (hq13.mono hB12.size); obtain ⟨c0, c1⟩ := (hv12.grow hq13).cells)
                      | (go_at_call 12; refine (hE E _).mono ?_; rintro e w14 ⟨rfl, hb14⟩; have hB14 := hB13.trans (hb14.mono hB13.size); replace hB13 := hB14))
                    refine ⟨⟨k + 1, by omega, by go_num, hB13⟩, ?_⟩
                    simp [intOf]; omega
                  · obtain rfl : k = 3 := by omega
                    have hki : ¬ ((3 : Nat) : Int) < 3 := by omega
                    have hBx := hBR.out.trans (hBd.mono hBR.out.size)
                    go_wp2_with (first
                      | (go_at_call 9; refine (hlive _).mono ?_; rintro e w13 ⟨rfl, hb13⟩))
                    go_ret
                    exact ⟨rfl, hBx.trans (hb13.mono hBx.size)⟩
/-! ### THE ROW's STEP -/
set_option maxRecDepth 100000 in
theorem lifted (os : Os) (started : os.Started) (H : Type) (enc : TypeId × Value → H) :
    ReturnsInHanded {} Tryz.checked os 5 .any (Rows.seriesOrderSpec.pre6 enc Tryz.prog Tryz.f5 Rows.seriesOrderRow.domain false) (Rows.seriesOrderSpec.post enc Tryz.prog Tryz.f5 false true false false) := by
  refine returnsInHanded_of_change_sized (C := Tryz.checked) own started (by kernel_rfl) Tryz.func5
    (ChangeSpec.witness6 (enc := enc) (C := Tryz.checked) false ⟨#[], #[.slice none 0 0, .slice none 0 0, .bool false], []⟩ 8 (by kernel_rfl) (by kernel_rfl) (by kernel_rfl) (by kernel_rfl)) ?_
  intro W base args ds gs before hval0 hW hcnd hsz0 _
  have hsz : (DataW.weightsEach Tryz.prog (Tryz.f5.params.toList ++ Rows.seriesOrderSpec.plain.varTypes Tryz.prog) (ds ++ gs)).all (· ≤ reachBytes) = true := hsz0
  have hval : ∀ (j : Nat) t v, Tryz.f5.params[j]? = some t → args[j]? = some v → Value.okWide Tryz.prog W .any base t v := hval0
  have hW' := hW
  obtain ⟨p, q, hA0, hV, rfl, hfz, hnd⟩ := hW
  have hA : DataW.TrodAll enc Tryz.prog W 0 (fun _ => true) true Tryz.f5.params.toList args.toList ds p := hA0
  rw [Tryz.params5] at hA hval hsz
  obtain ⟨v0, vs0, d0, ds0, p0, q0, hargs, rfl, rfl, h0, r0⟩ := trodAll_cons hA
  obtain ⟨v1, vs1, d1, ds1, p1, q1, rfl, rfl, rfl, h1, r1⟩ := trodAll_cons r0
  obtain ⟨v2, vs2, d2, ds2, p2, q2, rfl, rfl, rfl, h2, r2⟩ := trodAll_cons r1
  obtain ⟨rfl, rfl, rfl⟩ := trodAll_nil r2
  obtain rfl : args = #[v0, v1, v2] := by cases args; simp_all
  obtain ⟨rfl, rfl⟩ := trodVars_none hV
  have k0 := h0
  have lt0 : ∀ x ∈ p0, x.block < W.heap.size := by obtain ⟨m, hm⟩ := k0; exact DataW.trod_lt m _ _ _ hm
  obtain ⟨a0, n0, c0, rfl⟩ := okWide_slice Tryz.underlying33 (hval 0 33 v0 rfl rfl)
  obtain ⟨l0, hP0, hR0, hL0⟩ : ∃ l, Srs W (.slice a0 n0 c0) l ∧ (∀ p ∈ l, SeIn W p) ∧ l.length ≤ 4398046511104 := by
    obtain ⟨fuel, hf⟩ := h0
    refine srs_of_trod hf (fun q hq => ?_)
    have := List.all_eq_true.1 hsz _ (DataW.weights_mem_each (j := 0) (t := 33) rfl rfl q hq)
    simpa using this
  have k1 := h1
  have lt1 : ∀ x ∈ p1, x.block < W.heap.size := by obtain ⟨m, hm⟩ := k1; exact DataW.trod_lt m _ _ _ hm
  obtain ⟨a1, n1, c1, rfl⟩ := okWide_slice Tryz.underlying22 (hval 1 22 v1 rfl rfl)
  obtain ⟨l1, hP1, hR1, hL1⟩ : ∃ l, Pns W (.slice a1 n1 c1) l ∧ (True) ∧ l.length ≤ 5864062014634 := by
    obtain ⟨fuel, hf⟩ := h1
    refine pns_of_trod hf (fun q hq => ?_)
    have := List.all_eq_true.1 hsz _ (DataW.weights_mem_each (j := 1) (t := 22) rfl rfl q hq)
    simpa using this
  obtain ⟨x2, rfl, rfl, rfl⟩ := open_bool Tryz.underlying4 (hval 2 4 v2 rfl rfl) h2
  clear hA0 hval0
  refine (walk a0 n0 c0 l0 a1 n1 c1 l1 x2 W hP0 hR0 hL0 hP1 hR1 hL1).mono fun e W' ⟨he, bel⟩ => ?_
  subst he
  exact ⟨_, rfl, _, _, _, [], _, [], hW', trodAll_mk1 (shut_bool Tryz.underlying4 _), (trodAll_cons_mk (Below.trod laidOut (by kernel_rfl) (of_decide_eq_true (by kernel_rfl)) k0 bel lt0) (trodAll_cons_mk (Below.trod laidOut (by kernel_rfl) (of_decide_eq_true (by kernel_rfl)) k1 bel lt1) (trodAll_cons_mk (shut_bool Tryz.underlying4 _) trodAll_mk0))), rfl, bel.frame _, fun h => by cases h⟩
theorem over : Rows.seriesOrderRow.holds Tryz.pinned (OpenSpec.ofChange Rows.seriesOrderSpec) :=
  OpenClaim.holds_of_wide 5 Tryz.f5 rfl rfl rfl rfl rfl rfl rfl ⟨rfl, rfl, rfl, rfl, rfl⟩ rfl rfl rfl rfl rfl (by kernel_rfl) Tryz.func5 (by kernel_rfl)
    (of_decide_eq_true (by kernel_rfl)) (by unfold Func.isWrapper; first | (rw [if_pos (by decide +kernel)]; kernel_rfl) | (rw [if_neg (by decide +kernel)]; exact ⟨rfl, rfl⟩))
    (fun os started H enc _ => lifted os started H enc)
end Go.Proofs.YtejdmielhaldaaaGreat.seriesOrder
namespace Go.Proofs.YtejdmielhaldaaaGreat
/-- The statement. -/
theorem seriesOrder_holds : Rows.SeriesOrderSaid := seriesOrder.over
#print axioms seriesOrder_holds
end Go.Proofs.YtejdmielhaldaaaGreat
