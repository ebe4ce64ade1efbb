/-
  Of every list of series, every operation and every value: Join with a scalar, on whichever side, keeps the labels of the other side, and each value is what the operation comes to.
-/
import Derived.Test.YtejdmielhaldaaaGreatRows
import Derived.WalkKit
import Derived.ProofKit
import Derived.OpenShut
import Derived.ShutString
import Derived.ChangeOld
import Derived.Below
import Derived.SizedLaws
import Derived.Test.YtejdmielhaldaaaGreatTaTd
import Derived.Test.YtejdmielhaldaaaGreatOc
import Derived.Test.YtejdmielhaldaaaGreatWq
import Derived.Test.YtejdmielhaldaaaGreatGs
namespace Go.Proofs.YtejdmielhaldaaaGreat.seriesScalar
open Go.ChangeShapes Go.WideShapes Go.ChangeAt Go.RowKit
open Go.ChangeMaps (open_string shut_string)
set_option linter.unusedVariables false
theorem own : ownKnob Tryz.prog.godebug = none := by kernel_rfl
theorem laidOut : laidOutB Tryz.prog = true := by kernel_rfl
open Go.Deep in
set_option maxRecDepth 100000 in
theorem vl_arg {H : Type} {enc : TypeId × Value → H} {W : World} {v : Value} {b0 : Nat} {d : DataW H} {ps : List MemPlace} (hval : Value.okWide Tryz.prog W .any b0 25 v) (h : DataW.Trod enc Tryz.prog W 0 (fun _ => true) true 25 v d ps) : ∃ u : Vl, v = vlV u := by
  obtain ⟨cs, rfl, hs⟩ := Go.WideShapes.okWide_struct Tryz.underlying25 hval
  obtain ⟨fuel, hf⟩ := h
  have k25 : Tryz.prog.cellsOf 25 = 2 := by kernel_rfl
  rw [k25] at hs
  obtain ⟨u, hcs⟩ := vl_cells (by simpa [Value.cells] using hs) hf
  refine ⟨u, ?_⟩
  simp only [Value.cells] at hcs
  unfold vlV
  congr 1
  apply Array.toList_inj.1
  rw [hcs]
theorem scalF (v : Vl) (w : World) : Calls Tryz.prog 22 #[.agg #[.int .i64 v.kind, .int .i64 v.n]] w fun e w' => ∃ a' c', e = .returned (.slice a' 1 c') ∧ Hid (IsSer w' a' 1 c' [⟨[], v⟩] ∧ Below w.heap.size w w') := by
  refine (scalar_any v w).mono ?_
  rintro e w' ⟨u, rfl, h1, h2⟩
  obtain ⟨a', c', rfl⟩ := h1.shape
  exact ⟨a', c', rfl, ⟨[scal v], rfl, h1, fun x hx => by rw [List.mem_singleton.1 hx]; exact sls_nil _, rfl⟩, h2⟩
theorem scal_FR (v : Vl) : FR [⟨[], v⟩] := fun s hs => by rw [List.mem_singleton.1 hs]; exact ⟨(fun a ha => by cases ha), by simp⟩
theorem ser_at3 {w : World} {a : Option Addr} {n c : Nat} {F : List Series10.Sr} (h : IsSer w a n c F) (t : Nat) (ht : t < n) : ∃ b o xa xn xc, a = some ⟨b, o, none⟩ ∧ w.cell? ⟨b, o + t * 3, none⟩ = some (.slice xa xn xc) ∧ w.cell? ⟨b, o + t * 3 + 1, none⟩ = some (.int .i64 (F.getD t ⟨[], zer⟩).value.kind) ∧ w.cell? ⟨b, o + t * 3 + 2, none⟩ = some (.int .i64 (F.getD t ⟨[], zer⟩).value.n) ∧ Lbs w (.slice xa xn xc) (F.getD t ⟨[], zer⟩).labels := by
  obtain ⟨l, rfl, h2, h3, rfl⟩ := h
  have hm : l.getD t se0 ∈ l := by rw [List.getD_eq_getElem?_getD, List.getElem?_eq_getElem ht]; exact List.getElem_mem ht
  have e : (l.map serOf).getD t ⟨[], zer⟩ = serOf (l.getD t se0) := by
    rw [List.getD_eq_getElem?_getD, List.getD_eq_getElem?_getD, List.getElem?_map, List.getElem?_eq_getElem ht]; rfl
  obtain ⟨b, o, rfl, x0, x1, x2⟩ := sr_at h2 t ht
  rw [e]
  exact ⟨b, o, _, _, _, rfl, x0, x1, x2, h3 _ hm⟩
theorem IsSer.cap {w : World} {a : Option Addr} {n c : Nat} {F : List Series10.Sr} (h : IsSer w a n c F) : n ≤ c := by
  obtain ⟨l, rfl, ⟨a', c', e, hc, _⟩, _⟩ := h
  injection e with e1 e2 e3
  rw [e3]; exact hc.2
def OneS (xl : List Lb) (Z : Vl) (u : Value) (W : World) : Prop := ∃ g, u = .slice (some ⟨g, 0, none⟩) 1 1 ∧ IsSer W (some ⟨g, 0, none⟩) 1 1 [⟨xl, Z⟩]
theorem OneS.keep {xl : List Lb} {Z : Vl} {u : Value} {W W' : World} (h : OneS xl Z u W) (g : Below W.heap.size W W') : OneS xl Z u W' := by
  obtain ⟨b, e, h⟩ := h
  exact ⟨b, e, IsSer.grow h g⟩
theorem ser_new (W : World) (xa : Option Addr) (xn xc : Nat) (xl : List Lb) (Z : Vl) (h : Lbs W (.slice xa xn xc) xl) : IsSer (W.alloc (.cells #[.slice xa xn xc, .int .i64 Z.kind, .int .i64 Z.n] 49)) (some ⟨W.heap.size, 0, none⟩) 1 1 [⟨xl, Z⟩] :=
  ⟨[⟨xa, xn, xc, xl, Z⟩], rfl, sls_one (E := encR) W ⟨xa, xn, xc, xl, Z⟩ _ 49 rfl, fun x hx => by rw [List.mem_singleton.1 hx]; exact Sls.grow h (bW0 W _), rfl⟩
set_option maxRecDepth 100000 in
set_option maxHeartbeats 16000000 in
/-- THE WALK. -/
theorem walk (op : ByteArray) (a : Option Addr) (n c : Nat) (L : List Se) (v : Vl) (w : World) (hs : op.size ≤ reachBytes) (hP : Srs w (.slice a n c) L) (hi : ∀ p ∈ L, SeIn w p) (hl : L.length ≤ 4398046511104) :
    Calls Tryz.prog 6 #[.string op, .slice a n c, vlV v] w fun e w' => e = .returned (.bool true) ∧ Below w.heap.size w w' := by
  have hlive := live_ok
  have hO := bW0 w (.cells #[.int .i64 v.kind, .int .i64 v.n] 25)
  have hvb : VlAt (w.alloc (.cells #[.int .i64 v.kind, .int .i64 v.n] 25)) w.heap.size v := vlNew w v
  have hsm := small_ser _ L _ (Sls.grow hP hO) (fun x hx => Sls.grow (hi x hx).1 hO) (fun x hx => (hi x hx).2) hl
  obtain ⟨hS, hR⟩ := isSer_in hP hi
  have hn : L.length = n := by rw [hS.len, List.length_map]
  rw [hn] at hsm
  generalize L.map serOf = F at *
  replace hS := hS.grow hO
  clear hP hi hl hn
  unfold reachBytes at hs
  unfold vlV
  have hri := fun W => ris_any v W
  unfold vlV at hri
  have hE := fun x W => enum_any x W
  have hL := fun x W (h0 : -1000 ≤ x) (h1 : x ≤ 1000) => lnum_any x W h0 h1
  go_enter Tryz.func6, Tryz.ntmps6
  by_cases ho : op.size ≤ 1000
  case neg =>
    have hoi : (1000 : Int) < (op.size : Int) := by omega
    go_wp2_with (first
      | (go_at_call 13; refine hsm.mono ?_; rintro e w1 ⟨B, rfl, hB60, hb1⟩; have hB1 := hO.trans (hb1.mono hO.size); cases B)
      | (go_at_call 9; refine (hlive _).mono ?_; rintro e w2 ⟨rfl, hb2⟩))
    all_goals
      go_ret
      exact ⟨rfl, hB1.trans (hb2.mono hB1.size)⟩
  case pos =>
    have hoi : ¬ (1000 : Int) < (op.size : Int) := by omega
    cases hiv : isB v with
    | false =>
      rw [hiv] at hri
      go_wp2_with (first
        | (go_at_call 13; refine hsm.mono ?_; rintro e w1 ⟨B, rfl, hB60, hb1⟩; have hB1 := hO.trans (hb1.mono hO.size); obtain ⟨v0, v1⟩ := (hvb.grow hb1).cells; cases B)
        | (go_at_call 24; refine (hri _).mono ?_; rintro e w2 ⟨rfl, hb2⟩; have hB2 := hB1.trans (hb2.mono hB1.size); replace hB1 := hB2)
        | (go_at_call 9; refine (hlive _).mono ?_; rintro e w3 ⟨rfl, hb3⟩))
      all_goals
        go_ret
        exact ⟨rfl, hB1.trans (hb3.mono hB1.size)⟩
    | true =>
      rw [hiv] at hri
      have hvv0 : IsV v := of_decide_eq_true hiv
      have hvv : Hid (IsV v) := hvv0
      clear hvv0
      go_wp2_with (first
        | (go_at_call 13; refine hsm.mono ?_; rintro e w1 ⟨B, rfl, hB60, hb1⟩; have hB1 := hO.trans (hb1.mono hO.size); obtain ⟨v0, v1⟩ := (hvb.grow hb1).cells; have hS1 := hS.grow hb1; have hvb1 := hvb.grow hb1; cases B)
        | (go_at_call 24; refine (hri _).mono ?_; rintro e w2 ⟨rfl, hb2⟩; have hB2 := hB1.trans (hb2.mono hB1.size); have hS2 := hS1.grow hb2; have hvb2 := hvb1.grow hb2; obtain ⟨v0, v1⟩ := hvb2.cells)
        | (go_at_call 9; refine (hlive _).mono ?_; rintro e w3 ⟨rfl, hb3⟩))
      · go_ret
        exact ⟨rfl, hB1.trans (hb3.mono hB1.size)⟩
      · have hn60 : n ≤ 60 := hB60 trivial
        clear hB60 hsm hS hO hvb
        by_cases hq : ∃ out, Series10.SortQ F out 0
        · obtain ⟨F', hq⟩ := hq
          have hf' : Hid (Series10.IsFrame F') := (hq.frame rfl).1
          have hnF : Hid (F'.length = n) := by show _ = _; rw [hS2.len]; exact (hq.frame rfl).2.length_eq
          by_cases h0 : doE op [nul, nul] = 0
          · have hjt : Hid _ := scal_ok hvv.out hq h0
            replace hq : Hid (Series10.SortQ F F' 0) := hq
            replace h0 : Hid (doE op [nul, nul] = 0) := h0
            have hlA : Hid ((mapL op v F').length = n) := by show _ = _; unfold mapL; rw [List.length_map, hnF.out]
            have hlB : Hid ((mapR op v F').length = n) := by show _ = _; unfold mapR; rw [List.length_map, hnF.out]
            go_wp2_with (first
          | (go_at_call 22; (with_reducible refine (scalF v w2).mono ?_); rintro e w3 ⟨a3, c3, rfl, h3⟩; have hB3 := hB2.trans (h3.out.2.mono hB2.size); have hS3 := hS2.grow h3.out.2; have hvb3 := hvb2.grow h3.out.2; have hj3 := joinF hS3 h3.out.1 hR (scal_FR v) (by omega) (by omega) hjt.out.1)
          | (go_at_call 19; (with_reducible refine hj3.mono ?_); rintro e w4 ⟨a4, n4, c4, rfl, h4⟩; have hB4 := hB3.trans (h4.out.2.mono hB3.size); have hS4 := hS3.grow h4.out.2; have hvb4 := hvb3.grow h4.out.2; obtain ⟨v0, v1⟩ := hvb4.cells; have hn4 := h4.out.1.len; rw [hlA.out] at hn4; obtain rfl : n = n4 := hn4.symm)
          | (go_at_call 22; (with_reducible refine (scalF v w4).mono ?_); rintro e w5 ⟨a5, c5, rfl, h5⟩; have hB5 := hB4.trans (h5.out.2.mono hB4.size); have hS5 := hS4.grow h5.out.2; have hvb5 := hvb4.grow h5.out.2; have g5 := h5.out.2; have hj5 := joinF h5.out.1 hS5 (scal_FR v) hR (by omega) (by omega) hjt.out.2)
          | (go_at_call 19; (with_reducible refine hj5.mono ?_); rintro e w6 ⟨a6, n6, c6, rfl, h6⟩; have hB6 := hB5.trans (h6.out.2.mono hB5.size); have hS6 := hS5.grow h6.out.2; have hvb6 := hvb5.grow h6.out.2; have g6 := g5.trans (h6.out.2.mono g5.size); have hn6 := h6.out.1.len; rw [hlB.out] at hn6; obtain rfl : n = n6 := hn6.symm)
          | (go_at_call 15; refine (ownF hS6 hR (by omega)).mono ?_; rintro e w7 ⟨a7, c7, rfl, h7⟩; have hB7 := hB6.trans (h7.out.2.mono hB6.size); have g7 := g6.trans (h7.out.2.mono g6.size); have f7 := h7.out.2; have hvb7 := hvb6.grow h7.out.2; have hso := sortF h7.out.1 hR (by omega) hq.out)
          | (go_at_call 14; refine hso.mono ?_; rintro e w8 ⟨a8, c8, rfl, h8⟩; have hB8 := hB7.trans (h8.out.2.mono hB7.size); have g8 := g7.trans (h8.out.2.mono g7.size); have f8 := f7.trans (h8.out.2.mono f7.size); have hvb8 := hvb7.grow h8.out.2)
          | (go_at_call 12; refine (hL 0 _ (by omega) (by omega)).mono ?_; rintro e wq ⟨rfl, hwq⟩; obtain rfl := hwq.symm))
            have hSA : Hid (IsSer w8 a4 n c4 (mapL op v F')) := h4.out.1.grow g8
            have hSB : Hid (IsSer w8 a6 n c6 (mapR op v F')) := h6.out.1.grow f8
            have hSS : Hid (IsSer w8 a8 n c8 F') := h8.out.1
            replace hvb8 : Hid (VlAt w8 w.heap.size v) := hvb8
            replace hB8 : Hid (Below w.heap.size w w8) := hB8
            have hcA : n ≤ c4 := IsSer.cap hSA.out
            have hcB : n ≤ c6 := IsSer.cap hSB.out
            clear hj3 hj5 hso hB3 hB4 hB5 hB6 hB7 hS2 hS3 hS4 hS5 hS6 hvb2 hvb3 hvb4 hvb5 hvb6 hvb7 g5 g6 g7 g8 f7 f8 hS1 hvb1 hB1 hB2 hb1 hb2 hR
            go_loopw [13] (fun i wr => ∃ k : Nat, k ≤ n ∧ i = .int .i64 k ∧ Hid (Below w8.heap.size w8 wr)) (fun i _ => n - (intOf i).toNat)
            case atStart => exact ⟨0, Nat.zero_le _, rfl, Below.refl _ _⟩
            case round =>
              obtain ⟨k, hk, rfl, hB⟩ := hrel
              have hBd := hB.out
              by_cases hlt : k < n
              · have hki : (k : Int) < (n : Int) := by omega
                obtain ⟨bs, os, xa, xn, xc, rfl, y0, y1, y2, hyl⟩ := ser_at3 (IsSer.grow hSS.out hBd) k hlt
                obtain ⟨bA, oA, _, _, _, rfl, _⟩ := ser_at3 (IsSer.grow hSA.out hBd) k hlt
                obtain ⟨bB, oB, _, _, _, rfl, _⟩ := ser_at3 (IsSer.grow hSB.out hBd) k hlt
                have hoA := (IsSer.grow hSA.out hBd).one k hlt
                have hoB := (IsSer.grow hSB.out hBd).one k hlt
                have hkF : k < F'.length := by rw [hnF.out]; exact hlt
                have eA : (mapL op v F').getD k ⟨[], zer⟩ = ⟨(F'.getD k ⟨[], zer⟩).labels, doV op [(F'.getD k ⟨[], zer⟩).value, v]⟩ := by
                  unfold mapL
                  rw [List.getD_eq_getElem?_getD, List.getD_eq_getElem?_getD, List.getElem?_map, List.getElem?_eq_getElem hkF]; rfl
                have eB : (mapR op v F').getD k ⟨[], zer⟩ = ⟨(F'.getD k ⟨[], zer⟩).labels, doV op [v, (F'.getD k ⟨[], zer⟩).value]⟩ := by
                  unfold mapR
                  rw [List.getD_eq_getElem?_getD, List.getD_eq_getElem?_getD, List.getElem?_map, List.getElem?_eq_getElem hkF]; rfl
                rw [eA] at hoA
                rw [eB] at hoB
                have hxl : (F'.getD k ⟨[], zer⟩).labels.length ≤ 16 ∧ LbsR (F'.getD k ⟨[], zer⟩).labels := by
                  have := hf'.out.1 _ (List.getElem_mem hkF)
                  rw [List.getD_eq_getElem?_getD, List.getElem?_eq_getElem hkF]
                  exact ⟨this.2.2, lbsR_of this⟩
                clear eA eB hkF
                generalize F'.getD k ⟨[], zer⟩ = x at *
                obtain ⟨xl, xv⟩ := x
                simp only at y1 y2 hyl hoA hoB hxl
                have hd1 : Hid (∀ W u, Vls W u [xv, v] → Calls Tryz.prog 25 #[.string op, u] W fun e w' => e = .returned (.tuple #[vlV (doV op [xv, v]), .int .i64 (doE op [xv, v])]) ∧ Below W.heap.size W w') := fun W u h => rdo_any op u _ W h (by simp)
                have hd2 : Hid (∀ W u, Vls W u [v, xv] → Calls Tryz.prog 25 #[.string op, u] W fun e w' => e = .returned (.tuple #[vlV (doV op [v, xv]), .int .i64 (doE op [v, xv])]) ∧ Below W.heap.size W w') := fun W u h => rdo_any op u _ W h (by simp)
                generalize doV op [xv, v] = ZA at *
                generalize doE op [xv, v] = EA at *
                generalize doV op [v, xv] = ZB at *
                generalize doE op [v, xv] = EB at *
                unfold vlV at hd1 hd2
                replace hoA : Hid _ := hoA
                replace hoB : Hid _ := hoB
                replace hyl : Hid (Lbs wr (.slice xa xn xc) xl) := hyl
                have hvb9 := VlAt.grow hvb8.out hBd
                have q0 : ∀ p : Gq.Out (Gq.growS wr.heap.size ZA) wr, p.W.cell? ⟨bs, os + k * 3 + 1, none⟩ = some (.int .i64 xv.kind) := fun p => (p.h.1.cell (p := ⟨bs, _, none⟩) (World.block_lt_of_cell? wr _ y1)).trans y1
                have q1 : ∀ p : Gq.Out (Gq.growS wr.heap.size ZA) wr, p.W.cell? ⟨bs, os + k * 3 + 2, none⟩ = some (.int .i64 xv.n) := fun p => (p.h.1.cell (p := ⟨bs, _, none⟩) (World.block_lt_of_cell? wr _ y2)).trans y2
                have q2 : ∀ p : Gq.Out (Gq.growS wr.heap.size ZA) wr, p.W.cell? ⟨w.heap.size, 0, none⟩ = some (.int .i64 v.kind) := fun p => (hvb9.grow p.h.1).cells.1
                have q3 : ∀ p : Gq.Out (Gq.growS wr.heap.size ZA) wr, p.W.cell? ⟨w.heap.size, 1, none⟩ = some (.int .i64 v.n) := fun p => (hvb9.grow p.h.1).cells.2
                go_wp2
                refine Gq.wp_region_grow (Gq.growS wr.heap.size ZA) (Gq.growS_of (Nat.le_refl _) (Below.refl _ _).drew) (fun i => match i with | 7 => some (fun _ u W => Gq.Row2 xv v u W) | 8 => some (fun _ u _ => u = .tuple #[.agg #[.int .i64 ZA.kind, .int .i64 ZA.n], .int .i64 EA]) | 12 => some (fun _ u W => Gq.BoxS wr.heap.size ZA u W) | 13 => some (fun vs _ W => Gq.DoneS wr.heap.size ZA vs W) | _ => none) ?_ (by kernel_rfl) (by kernel_rfl) ?_
                · intro i s hs vs v W W' h g
                  dsimp only at hs; split at hs <;> cases hs <;> first | exact h | exact Gq.Row2.keep h g | exact Gq.BoxS.keep h g | exact Gq.DoneS.keep h g
                refine Gq.wpG_pure rfl rfl rfl rfl (fun KK hK => ?_); go_big_quiet_op; refine hK _ ?_; clear hK KK
                refine Gq.wpG_pure rfl rfl rfl rfl (fun KK hK => ?_); go_big_quiet_op; refine hK _ ?_; clear hK KK
                refine Gq.wpG_pure rfl rfl rfl rfl (fun KK hK => ?_); go_big_quiet_op; refine hK _ ?_; clear hK KK
                refine Gq.wpG_pure rfl rfl rfl rfl (fun KK hK => ?_); go_big_quiet_op; refine hK _ ?_; clear hK KK
                refine Gq.wpG_pure rfl rfl rfl rfl (fun KK hK => ?_); go_big_quiet_op; refine hK _ ?_; clear hK KK
                refine Gq.wpG_pure rfl rfl rfl rfl (fun KK hK => ?_); go_big_quiet_op; refine hK _ ?_; clear hK KK
                refine Gq.wpG_pure rfl rfl rfl rfl (fun KK hK => ?_); go_big_quiet_op; refine hK _ ?_; clear hK KK
                refine Gq.wpG_tell _ rfl rfl rfl rfl (fun W hW => ?_) (fun x7 hx7 KK hK => ?_)
                · exact Gq.tell_run (.slice (some ⟨W.heap.size, 0, none⟩) 2 2) (W.alloc (.cells #[.int .i64 xv.kind, .int .i64 xv.n, .int .i64 v.kind, .int .i64 v.n] 25)) (by go_simp) (Gq.growS_of (Gq.growS_size (Nat.le_refl _) hW.1.gw) ((Below.refl _ _).alloc (Nat.le_refl _) _)) (Gq.row2_new W xv v)
                go_big_quiet_op; refine hK _ ?_; clear hK KK
                refine Gq.wpG_call (.tuple #[.agg #[.int .i64 ZA.kind, .int .i64 ZA.n], .int .i64 EA]) rfl rfl rfl (fun W hW => ?_) (fun KK hK => ?_)
                · refine Gq.tell_fn #[.string op, x7] rfl (by simp [Act.eval]) Tryz.func25 (by kernel_rfl) (by kernel_rfl) ?_
                  refine (hd1.out W x7 ((hW.2 7 _ rfl (by kernel_rfl)).2 rfl).vls).mono ?_
                  rintro e w' ⟨h1, h2⟩
                  exact ⟨_, h1, Gq.growS_of (Gq.growS_size (Nat.le_refl _) hW.1.gw) h2, rfl⟩
                go_big_quiet_op; refine hK _ ?_; clear hK KK
                refine Gq.wpG_pure rfl rfl rfl rfl (fun KK hK => ?_); go_big_quiet_op; refine hK _ ?_; clear hK KK
                refine Gq.wpG_pure rfl rfl rfl rfl (fun KK hK => ?_); go_big_quiet_op; refine hK _ ?_; clear hK KK
                refine Gq.wpG_pure rfl rfl rfl rfl (fun KK hK => ?_); go_big_quiet_op; refine hK _ ?_; clear hK KK
                refine Gq.wpG_tell _ rfl rfl rfl rfl (fun W hW => ?_) (fun x12 hx12 KK hK => ?_)
                · exact Gq.tell_run (.pointer (some ⟨W.heap.size, 0, none⟩)) (W.alloc (.cells #[.int .i64 0, .int .i64 0] 25)) (by go_simp) (Gq.growS_of (Gq.growS_size (Nat.le_refl _) hW.1.gw) ((Below.refl _ _).alloc (Nat.le_refl _) _)) (Gq.box_new W (Gq.growS_size (Nat.le_refl _) hW.1.gw) ZA)
                go_big_quiet_op; refine hK _ ?_; clear hK KK
                refine Gq.wpG_tell #[x12, .agg #[.int .i64 ZA.kind, .int .i64 ZA.n]] rfl rfl rfl (by simp [Op.operands, Act.eval]) (fun W hW => ?_) (fun x13 hx13 KK hK => ?_)
                · obtain ⟨y, hy, rfl, hv⟩ := (hW.2 12 _ rfl (by kernel_rfl)).2 rfl
                  refine Gq.tell_skip ((W.setCell ⟨y, 0, none⟩ (.int .i64 ZA.kind)).setCell ⟨y, 1, none⟩ (.int .i64 ZA.n)) ?_ (Gq.store_R hy hv) (Gq.store_done _ hy rfl hv)
                  rcases hv with hv | hv
                  · obtain ⟨v0, v1⟩ := hv.cells
                    obtain ⟨v2, v3⟩ := hv.frozen
                    go_simp
                  · obtain ⟨v0, v1⟩ := hv.cells
                    obtain ⟨v2, v3⟩ := hv.frozen
                    go_simp
                go_big_quiet_op; refine hK _ ?_; clear hK KK
                refine Gq.wpG_pure rfl rfl rfl rfl (fun KK hK => ?_); go_big_quiet_op; refine hK _ ?_; clear hK KK
                refine Gq.wpG_nil (fun WA hW hF => ?_)
                obtain ⟨bt, _, he, hbt⟩ := (hF 13).2 rfl
                have he := Option.some.inj he
                subst he
                have hbWA : Below wr.heap.size wr WA := hW.gw.1
                clear hF hW
                clear q0 q1 q2 q3
                replace y0 := (hbWA.cell (p := ⟨bs, _, none⟩) (World.block_lt_of_cell? wr _ y0)).trans y0
                replace y1 := (hbWA.cell (p := ⟨bs, _, none⟩) (World.block_lt_of_cell? wr _ y1)).trans y1
                replace y2 := (hbWA.cell (p := ⟨bs, _, none⟩) (World.block_lt_of_cell? wr _ y2)).trans y2
                replace hvb9 := hvb9.grow hbWA
                have q0 : ∀ p : Gq.Out (Gq.growS WA.heap.size ZB) WA, p.W.cell? ⟨bs, os + k * 3 + 1, none⟩ = some (.int .i64 xv.kind) := fun p => (p.h.1.cell (p := ⟨bs, _, none⟩) (World.block_lt_of_cell? WA _ y1)).trans y1
                have q1 : ∀ p : Gq.Out (Gq.growS WA.heap.size ZB) WA, p.W.cell? ⟨bs, os + k * 3 + 2, none⟩ = some (.int .i64 xv.n) := fun p => (p.h.1.cell (p := ⟨bs, _, none⟩) (World.block_lt_of_cell? WA _ y2)).trans y2
                have q2 : ∀ p : Gq.Out (Gq.growS WA.heap.size ZB) WA, p.W.cell? ⟨w.heap.size, 0, none⟩ = some (.int .i64 v.kind) := fun p => (hvb9.grow p.h.1).cells.1
                have q3 : ∀ p : Gq.Out (Gq.growS WA.heap.size ZB) WA, p.W.cell? ⟨w.heap.size, 1, none⟩ = some (.int .i64 v.n) := fun p => (hvb9.grow p.h.1).cells.2
                go_wp2
                refine Gq.wp_region_grow (Gq.growS WA.heap.size ZB) (Gq.growS_of (Nat.le_refl _) (Below.refl _ _).drew) (fun i => match i with | 7 => some (fun _ u W => Gq.Row2 v xv u W) | 8 => some (fun _ u _ => u = .tuple #[.agg #[.int .i64 ZB.kind, .int .i64 ZB.n], .int .i64 EB]) | 12 => some (fun _ u W => Gq.BoxS WA.heap.size ZB u W) | 13 => some (fun vs _ W => Gq.DoneS WA.heap.size ZB vs W) | _ => none) ?_ (by kernel_rfl) (by kernel_rfl) ?_
                · intro i s hs vs v W W' h g
                  dsimp only at hs; split at hs <;> cases hs <;> first | exact h | exact Gq.Row2.keep h g | exact Gq.BoxS.keep h g | exact Gq.DoneS.keep h g
                refine Gq.wpG_pure rfl rfl rfl rfl (fun KK hK => ?_); go_big_quiet_op; refine hK _ ?_; clear hK KK
                refine Gq.wpG_pure rfl rfl rfl rfl (fun KK hK => ?_); go_big_quiet_op; refine hK _ ?_; clear hK KK
                refine Gq.wpG_pure rfl rfl rfl rfl (fun KK hK => ?_); go_big_quiet_op; refine hK _ ?_; clear hK KK
                refine Gq.wpG_pure rfl rfl rfl rfl (fun KK hK => ?_); go_big_quiet_op; refine hK _ ?_; clear hK KK
                refine Gq.wpG_pure rfl rfl rfl rfl (fun KK hK => ?_); go_big_quiet_op; refine hK _ ?_; clear hK KK
                refine Gq.wpG_pure rfl rfl rfl rfl (fun KK hK => ?_); go_big_quiet_op; refine hK _ ?_; clear hK KK
                refine Gq.wpG_pure rfl rfl rfl rfl (fun KK hK => ?_); go_big_quiet_op; refine hK _ ?_; clear hK KK
                refine Gq.wpG_tell _ rfl rfl rfl rfl (fun W hW => ?_) (fun x7 hx7 KK hK => ?_)
                · exact Gq.tell_run (.slice (some ⟨W.heap.size, 0, none⟩) 2 2) (W.alloc (.cells #[.int .i64 v.kind, .int .i64 v.n, .int .i64 xv.kind, .int .i64 xv.n] 25)) (by go_simp) (Gq.growS_of (Gq.growS_size (Nat.le_refl _) hW.1.gw) ((Below.refl _ _).alloc (Nat.le_refl _) _)) (Gq.row2_new W v xv)
                go_big_quiet_op; refine hK _ ?_; clear hK KK
                refine Gq.wpG_call (.tuple #[.agg #[.int .i64 ZB.kind, .int .i64 ZB.n], .int .i64 EB]) rfl rfl rfl (fun W hW => ?_) (fun KK hK => ?_)
                · refine Gq.tell_fn #[.string op, x7] rfl (by simp [Act.eval]) Tryz.func25 (by kernel_rfl) (by kernel_rfl) ?_
                  refine (hd2.out W x7 ((hW.2 7 _ rfl (by kernel_rfl)).2 rfl).vls).mono ?_
                  rintro e w' ⟨h1, h2⟩
                  exact ⟨_, h1, Gq.growS_of (Gq.growS_size (Nat.le_refl _) hW.1.gw) h2, rfl⟩
                go_big_quiet_op; refine hK _ ?_; clear hK KK
                refine Gq.wpG_pure rfl rfl rfl rfl (fun KK hK => ?_); go_big_quiet_op; refine hK _ ?_; clear hK KK
                refine Gq.wpG_pure rfl rfl rfl rfl (fun KK hK => ?_); go_big_quiet_op; refine hK _ ?_; clear hK KK
                refine Gq.wpG_pure rfl rfl rfl rfl (fun KK hK => ?_); go_big_quiet_op; refine hK _ ?_; clear hK KK
                refine Gq.wpG_tell _ rfl rfl rfl rfl (fun W hW => ?_) (fun x12 hx12 KK hK => ?_)
                · exact Gq.tell_run (.pointer (some ⟨W.heap.size, 0, none⟩)) (W.alloc (.cells #[.int .i64 0, .int .i64 0] 25)) (by go_simp) (Gq.growS_of (Gq.growS_size (Nat.le_refl _) hW.1.gw) ((Below.refl _ _).alloc (Nat.le_refl _) _)) (Gq.box_new W (Gq.growS_size (Nat.le_refl _) hW.1.gw) ZB)
                go_big_quiet_op; refine hK _ ?_; clear hK KK
                refine Gq.wpG_tell #[x12, .agg #[.int .i64 ZB.kind, .int .i64 ZB.n]] rfl rfl rfl (by simp [Op.operands, Act.eval]) (fun W hW => ?_) (fun x13 hx13 KK hK => ?_)
                · obtain ⟨y, hy, rfl, hv⟩ := (hW.2 12 _ rfl (by kernel_rfl)).2 rfl
                  refine Gq.tell_skip ((W.setCell ⟨y, 0, none⟩ (.int .i64 ZB.kind)).setCell ⟨y, 1, none⟩ (.int .i64 ZB.n)) ?_ (Gq.store_R hy hv) (Gq.store_done _ hy rfl hv)
                  rcases hv with hv | hv
                  · obtain ⟨v0, v1⟩ := hv.cells
                    obtain ⟨v2, v3⟩ := hv.frozen
                    go_simp
                  · obtain ⟨v0, v1⟩ := hv.cells
                    obtain ⟨v2, v3⟩ := hv.frozen
                    go_simp
                go_big_quiet_op; refine hK _ ?_; clear hK KK
                refine Gq.wpG_pure rfl rfl rfl rfl (fun KK hK => ?_); go_big_quiet_op; refine hK _ ?_; clear hK KK
                refine Gq.wpG_nil (fun WB hW hF => ?_)
                obtain ⟨bu, _, he, hbu⟩ := (hF 13).2 rfl
                have he := Option.some.inj he
                subst he
                have hbWB : Below WA.heap.size WA WB := hW.gw.1
                clear hF hW
                clear q0 q1 q2 q3
                replace y0 := (hbWB.cell (p := ⟨bs, _, none⟩) (World.block_lt_of_cell? WA _ y0)).trans y0
                have hbAB := hbWA.trans (hbWB.mono hbWA.size)
                replace hbt := hbt.grow hbWB
                replace hoA : Hid _ := IsSer.grow hoA.out hbAB
                replace hoB : Hid _ := IsSer.grow hoB.out hbAB
                replace hyl : Hid _ := Sls.grow hyl.out hbAB
                have hBz : Hid _ := hBd.trans (hbAB.mono hBd.size)
                clear hbWA hbWB hbAB hvb9 y1 y2 hd1 hd2
                have fy : ∀ p : Bel WB, p.W.cell? ⟨bs, os + k * 3, none⟩ = some (.slice xa xn xc) := fun p => p.cell y0
                have ft0 : ∀ p : Bel WB, p.W.cell? ⟨bt, 0, none⟩ = some (.int .i64 ZA.kind) := fun p => p.cell hbt.cells.1
                have ft1 : ∀ p : Bel WB, p.W.cell? ⟨bt, 1, none⟩ = some (.int .i64 ZA.n) := fun p => p.cell hbt.cells.2
                have fu0 : ∀ p : Bel WB, p.W.cell? ⟨bu, 0, none⟩ = some (.int .i64 ZB.kind) := fun p => p.cell hbu.cells.1
                have fu1 : ∀ p : Bel WB, p.W.cell? ⟨bu, 1, none⟩ = some (.int .i64 ZB.n) := fun p => p.cell hbu.cells.2
                go_wp2
                have hFR1 : Hid (∀ Z : Vl, FR [⟨xl, Z⟩]) := fun Z s hs => by rw [List.mem_singleton.1 hs]; exact ⟨hxl.2, by show xl.length ≤ _; omega⟩
                have hFR2 : Hid (∀ Z : Vl, ∀ s ∈ ([⟨xl, Z⟩] : List Series10.Sr), s.labels.length ≤ 1000000) := fun Z s hs => by rw [List.mem_singleton.1 hs]; show xl.length ≤ _; omega
                have hk4 : k + 1 ≤ c4 := by omega
                have hk6 : k + 1 ≤ c6 := by omega
                refine wp_region_grow (w := WB) (fun i => match i with | 4 => some (fun u _ => u = .slice (some ⟨bA, oA + k * 3, none⟩) 1 (c4 - k)) | 11 => some (fun u _ => u = .agg #[.slice xa xn xc, .int .i64 ZA.kind, .int .i64 ZA.n]) | 12 => some (fun u W => OneS xl ZA u W) | 13 => some (fun u _ => u = .bool true) | 20 => some (fun u _ => u = .slice (some ⟨bB, oB + k * 3, none⟩) 1 (c6 - k)) | 27 => some (fun u _ => u = .agg #[.slice xa xn xc, .int .i64 ZB.kind, .int .i64 ZB.n]) | 28 => some (fun u W => OneS xl ZB u W) | 29 => some (fun u _ => u = .bool true) | _ => none) ?_ (by kernel_rfl) (by kernel_rfl) ?_
                · intro i s hs v W W' h g
                  dsimp only at hs; split at hs <;> cases hs <;> first | exact OneS.keep h g | exact h
                refine wpG_pure rfl rfl rfl rfl (fun KK hK => ?_); go_big_quiet_op; refine hK _ ?_; clear hK KK
                refine wpG_pure rfl rfl rfl rfl (fun KK hK => ?_); go_big_quiet_op; refine hK _ ?_; clear hK KK
                refine wpG_pure rfl rfl rfl rfl (fun KK hK => ?_); go_big_quiet_op; refine hK _ ?_; clear hK KK
                refine wpG_pure rfl rfl rfl rfl (fun KK hK => ?_); go_big_quiet_op; refine hK _ ?_; clear hK KK
                refine wpG_call (.slice (some ⟨bA, oA + k * 3, none⟩) 1 (c4 - k)) rfl rfl rfl (fun W hW => ?_) (fun KK hK => ?_)
                · exact tell_run (.slice (some ⟨bA, oA + k * 3, none⟩) 1 (c4 - k)) W (by go_simp; rw [if_pos (show (0 : Int) ≤ (k : Int) + 1 ∧ (k : Int) + 1 ≤ (c4 : Int) from ⟨by omega, by omega⟩), if_neg (show ¬ c4 = k by omega)]) (Gw.refl _) rfl
                go_big_quiet_op; refine hK _ ?_; clear hK KK
                refine wpG_pure rfl rfl rfl rfl (fun KK hK => ?_); go_big_quiet_op; refine hK _ ?_; clear hK KK
                refine wpG_pure rfl rfl rfl rfl (fun KK hK => ?_); go_big_quiet_op; refine hK _ ?_; clear hK KK
                refine wpG_pure rfl rfl rfl rfl (fun KK hK => ?_); go_big_quiet_op; refine hK _ ?_; clear hK KK
                refine wpG_pure rfl rfl rfl rfl (fun KK hK => ?_); go_big_quiet_op; refine hK _ ?_; clear hK KK
                refine wpG_pure rfl rfl rfl rfl (fun KK hK => ?_); go_big_quiet_op; refine hK _ ?_; clear hK KK
                refine wpG_pure rfl rfl rfl rfl (fun KK hK => ?_); go_big_quiet_op; refine hK _ ?_; clear hK KK
                refine wpG_call (.agg #[.slice xa xn xc, .int .i64 ZA.kind, .int .i64 ZA.n]) rfl rfl rfl (fun W hW => ?_) (fun KK hK => ?_)
                · exact tell_run _ W (by go_simp) (Gw.refl _) rfl
                go_big_quiet_op; refine hK _ ?_; clear hK KK
                refine wpG_tell rfl rfl rfl (fun W hW => ?_) (fun x12 hx12 KK hK => ?_)
                · exact tell_run (.slice (some ⟨W.heap.size, 0, none⟩) 1 1) (W.alloc (.cells #[.slice xa xn xc, .int .i64 ZA.kind, .int .i64 ZA.n] 49)) (by go_simp) ((Below.refl _ _).alloc (Nat.le_refl _) _) ⟨_, rfl, ser_new W xa xn xc xl ZA (Sls.grow hyl.out hW.1.gw)⟩
                go_big_quiet_op; refine hK _ ?_; clear hK KK
                refine wpG_call (.bool true) rfl rfl rfl (fun W hW => ?_) (fun KK hK => ?_)
                · obtain ⟨gg, hge, hI⟩ := (hW.2 12 _ rfl (by kernel_rfl)).2 rfl
                  refine tell_fn #[.slice (some ⟨bA, oA + k * 3, none⟩) 1 (c4 - k), x12] rfl (by simp [Act.eval]) Tryz.func21 (by kernel_rfl) (by kernel_rfl) ?_
                  rw [hge]
                  refine (sameF (IsSer.grow hoA.out hW.1.gw) hI (hFR1.out _) (hFR1.out _) (hFR2.out _) (hFR2.out _) (by omega) (by omega)).mono ?_
                  rintro e w' ⟨h1, h2⟩
                  rw [decide_eq_true rfl] at h1
                  exact ⟨_, h1, h2, rfl⟩
                go_big_quiet_op; refine hK _ ?_; clear hK KK
                refine wpG_pure rfl rfl rfl rfl (fun KK hK => ?_); go_big_quiet_op; refine hK _ ?_; clear hK KK
                refine wpG_pure rfl rfl rfl rfl (fun KK hK => ?_); go_big_quiet_op; refine hK _ ?_; clear hK KK
                refine wpG_pure rfl rfl rfl rfl (fun KK hK => ?_); go_big_quiet_op; refine hK _ ?_; clear hK KK
                refine wpG_pure rfl rfl rfl rfl (fun KK hK => ?_); go_big_quiet_op; refine hK _ ?_; clear hK KK
                refine wpG_pure rfl rfl rfl rfl (fun KK hK => ?_); go_big_quiet_op; refine hK _ ?_; clear hK KK
                refine wpG_pure rfl rfl rfl rfl (fun KK hK => ?_); go_big_quiet_op; refine hK _ ?_; clear hK KK
                refine wpG_call (.slice (some ⟨bB, oB + k * 3, none⟩) 1 (c6 - k)) rfl rfl rfl (fun W hW => ?_) (fun KK hK => ?_)
                · exact tell_run (.slice (some ⟨bB, oB + k * 3, none⟩) 1 (c6 - k)) W (by go_simp; rw [if_pos (show (0 : Int) ≤ (k : Int) + 1 ∧ (k : Int) + 1 ≤ (c6 : Int) from ⟨by omega, by omega⟩), if_neg (show ¬ c6 = k by omega)]) (Gw.refl _) rfl
                go_big_quiet_op; refine hK _ ?_; clear hK KK
                refine wpG_pure rfl rfl rfl rfl (fun KK hK => ?_); go_big_quiet_op; refine hK _ ?_; clear hK KK
                refine wpG_pure rfl rfl rfl rfl (fun KK hK => ?_); go_big_quiet_op; refine hK _ ?_; clear hK KK
                refine wpG_pure rfl rfl rfl rfl (fun KK hK => ?_); go_big_quiet_op; refine hK _ ?_; clear hK KK
                refine wpG_pure rfl rfl rfl rfl (fun KK hK => ?_); go_big_quiet_op; refine hK _ ?_; clear hK KK
                refine wpG_pure rfl rfl rfl rfl (fun KK hK => ?_); go_big_quiet_op; refine hK _ ?_; clear hK KK
                refine wpG_pure rfl rfl rfl rfl (fun KK hK => ?_); go_big_quiet_op; refine hK _ ?_; clear hK KK
                refine wpG_call (.agg #[.slice xa xn xc, .int .i64 ZB.kind, .int .i64 ZB.n]) rfl rfl rfl (fun W hW => ?_) (fun KK hK => ?_)
                · exact tell_run _ W (by go_simp) (Gw.refl _) rfl
                go_big_quiet_op; refine hK _ ?_; clear hK KK
                refine wpG_tell rfl rfl rfl (fun W hW => ?_) (fun x28 hx28 KK hK => ?_)
                · exact tell_run (.slice (some ⟨W.heap.size, 0, none⟩) 1 1) (W.alloc (.cells #[.slice xa xn xc, .int .i64 ZB.kind, .int .i64 ZB.n] 49)) (by go_simp) ((Below.refl _ _).alloc (Nat.le_refl _) _) ⟨_, rfl, ser_new W xa xn xc xl ZB (Sls.grow hyl.out hW.1.gw)⟩
                go_big_quiet_op; refine hK _ ?_; clear hK KK
                refine wpG_call (.bool true) rfl rfl rfl (fun W hW => ?_) (fun KK hK => ?_)
                · obtain ⟨gg, hge, hI⟩ := (hW.2 28 _ rfl (by kernel_rfl)).2 rfl
                  refine tell_fn #[.slice (some ⟨bB, oB + k * 3, none⟩) 1 (c6 - k), x28] rfl (by simp [Act.eval]) Tryz.func21 (by kernel_rfl) (by kernel_rfl) ?_
                  rw [hge]
                  refine (sameF (IsSer.grow hoB.out hW.1.gw) hI (hFR1.out _) (hFR1.out _) (hFR2.out _) (hFR2.out _) (by omega) (by omega)).mono ?_
                  rintro e w' ⟨h1, h2⟩
                  rw [decide_eq_true rfl] at h1
                  exact ⟨_, h1, h2, rfl⟩
                go_big_quiet_op; refine hK _ ?_; clear hK KK
                refine wpG_pure rfl rfl rfl rfl (fun KK hK => ?_); go_big_quiet_op; refine hK _ ?_; clear hK KK
                refine wpG_pure rfl rfl rfl rfl (fun KK hK => ?_); go_big_quiet_op; refine hK _ ?_; clear hK KK
                refine wpG_nil (fun W' hW hF => ?_)
                have hg := hW.gw
                have hBq : Hid _ := hBz.out.trans (hg.mono hBz.out.size)
                clear hF hW fy ft0 ft1 fu0 fu1
                go_wp2
                refine ⟨⟨k + 1, by omega, by go_num, hBq⟩, ?_⟩
                simp [intOf]; omega
              · obtain rfl : n = k := by omega
                have hki : ¬ (n : Int) < (n : Int) := by omega
                have hBx := hB8.out.trans (hBd.mono hB8.out.size)
                go_wp2_with (first
                  | (go_at_call 9; refine (hlive _).mono ?_; rintro e w10 ⟨rfl, hb10⟩))
                go_ret
                exact ⟨rfl, hBx.trans (hb10.mono hBx.size)⟩
          · have hjt : Hid _ := scal_op hvv.out hq h0
            replace hq : Hid (Series10.SortQ F F' 0) := hq
            obtain ⟨er, hre⟩ : ∃ er, Hid (er = doE op [nul, nul]) := ⟨_, rfl⟩
            rw [← hre.out] at h0
            have hjt2 : Hid (JoinT op F [⟨[], v⟩] [] er ∧ JoinT op [⟨[], v⟩] F [] er) := by rw [hre.out]; exact hjt.out
            have hne1 : (er != 0) = true := by simpa using h0
            have hne2 : (er == 0) = false := by simpa using h0
            clear hjt h0
            go_wp2_with (first
          | (go_at_call 22; (with_reducible refine (scalF v w2).mono ?_); rintro e w3 ⟨a3, c3, rfl, h3⟩; have hB3 := hB2.trans (h3.out.2.mono hB2.size); have hS3 := hS2.grow h3.out.2; have hvb3 := hvb2.grow h3.out.2; have hj3 := joinF hS3 h3.out.1 hR (scal_FR v) (by omega) (by omega) hjt2.out.1)
          | (go_at_call 19; (with_reducible refine hj3.mono ?_); rintro e w4 ⟨a4, n4, c4, rfl, h4⟩; have hB4 := hB3.trans (h4.out.2.mono hB3.size); have hS4 := hS3.grow h4.out.2; have hvb4 := hvb3.grow h4.out.2; obtain ⟨v0, v1⟩ := hvb4.cells; have hn4 := h4.out.1.len; obtain rfl : n4 = 0 := hn4)
          | (go_at_call 22; (with_reducible refine (scalF v w4).mono ?_); rintro e w5 ⟨a5, c5, rfl, h5⟩; have hB5 := hB4.trans (h5.out.2.mono hB4.size); have hS5 := hS4.grow h5.out.2; have hvb5 := hvb4.grow h5.out.2; have g5 := h5.out.2; have hj5 := joinF h5.out.1 hS5 (scal_FR v) hR (by omega) (by omega) hjt2.out.2)
          | (go_at_call 19; (with_reducible refine hj5.mono ?_); rintro e w6 ⟨a6, n6, c6, rfl, h6⟩; have hB6 := hB5.trans (h6.out.2.mono hB5.size); have hS6 := hS5.grow h6.out.2; have hvb6 := hvb5.grow h6.out.2; have g6 := g5.trans (h6.out.2.mono g5.size); have hn6 := h6.out.1.len; obtain rfl : n6 = 0 := hn6)
          | (go_at_call 15; refine (ownF hS6 hR (by omega)).mono ?_; rintro e w7 ⟨a7, c7, rfl, h7⟩; have hB7 := hB6.trans (h7.out.2.mono hB6.size); have hso := sortF h7.out.1 hR (by omega) hq.out)
          | (go_at_call 14; refine hso.mono ?_; rintro e w8 ⟨a8, c8, rfl, h8⟩; have hB8 := hB7.trans (h8.out.2.mono hB7.size))
          | (go_at_call 12; refine (hE er _).mono ?_; rintro e w9 ⟨rfl, hb9⟩; have hB9 := hB8.trans (hb9.mono hB8.size); replace hB8 := hB9; generalize w9 = w8 at *))
            replace hB8 : Hid _ := hB8
            generalize w8 = wz at *
            go_loopw [13] (fun i wr => i = .int .i64 0 ∧ Hid (Below wz.heap.size wz wr)) (fun i _ => 0)
            case atStart => exact ⟨rfl, Below.refl _ _⟩
            case round =>
              obtain ⟨rfl, hB⟩ := hrel
              have hBx := hB8.out.trans (hB.out.mono hB8.out.size)
              go_wp2_with (first
                | (go_at_call 9; refine (hlive _).mono ?_; rintro e w10 ⟨rfl, hb10⟩))
              go_ret
              exact ⟨rfl, hBx.trans (hb10.mono hBx.size)⟩
        · obtain ⟨er, h0, hqe⟩ := sort_er hq
          have hjt2 : Hid (JoinT op F [⟨[], v⟩] [] er ∧ JoinT op [⟨[], v⟩] F [] er) := scal_no hvv.out h0 hqe
          have hne1 : (er != 0) = true := by simpa using h0
          have hne2 : (er == 0) = false := by simpa using h0
          replace hq : Hid (¬ ∃ out, Series10.SortQ F out 0) := hq
          clear h0 hqe
          go_wp2_with (first
          | (go_at_call 22; (with_reducible refine (scalF v w2).mono ?_); rintro e w3 ⟨a3, c3, rfl, h3⟩; have hB3 := hB2.trans (h3.out.2.mono hB2.size); have hS3 := hS2.grow h3.out.2; have hvb3 := hvb2.grow h3.out.2; have hj3 := joinF hS3 h3.out.1 hR (scal_FR v) (by omega) (by omega) hjt2.out.1)
          | (go_at_call 19; (with_reducible refine hj3.mono ?_); rintro e w4 ⟨a4, n4, c4, rfl, h4⟩; have hB4 := hB3.trans (h4.out.2.mono hB3.size); have hS4 := hS3.grow h4.out.2; have hvb4 := hvb3.grow h4.out.2; obtain ⟨v0, v1⟩ := hvb4.cells; have hn4 := h4.out.1.len; obtain rfl : n4 = 0 := hn4)
          | (go_at_call 22; (with_reducible refine (scalF v w4).mono ?_); rintro e w5 ⟨a5, c5, rfl, h5⟩; have hB5 := hB4.trans (h5.out.2.mono hB4.size); have hS5 := hS4.grow h5.out.2; have hvb5 := hvb4.grow h5.out.2; have g5 := h5.out.2; have hj5 := joinF h5.out.1 hS5 (scal_FR v) hR (by omega) (by omega) hjt2.out.2)
          | (go_at_call 19; (with_reducible refine hj5.mono ?_); rintro e w6 ⟨a6, n6, c6, rfl, h6⟩; have hB6 := hB5.trans (h6.out.2.mono hB5.size); have hS6 := hS5.grow h6.out.2; have hvb6 := hvb5.grow h6.out.2; have g6 := g5.trans (h6.out.2.mono g5.size); have hn6 := h6.out.1.len; obtain rfl : n6 = 0 := hn6)
          | (go_at_call 15; refine (ownF hS6 hR (by omega)).mono ?_; rintro e w7 ⟨a7, c7, rfl, h7⟩; have hB7 := hB6.trans (h7.out.2.mono hB6.size); have hso := sortF_no h7.out.1 hR (by omega) hq.out)
          | (go_at_call 14; refine hso.mono ?_; rintro e w8 ⟨er2, rfl, hne3, _, hb8⟩; have hB8 := hB7.trans (hb8.mono hB7.size))
          | (go_at_call 12; refine (hE er _).mono ?_; rintro e w9 ⟨rfl, hb9⟩; have hB9 := hB8.trans (hb9.mono hB8.size); replace hB8 := hB9; generalize w9 = w8 at *))
          replace hB8 : Hid _ := hB8
          generalize w8 = wz at *
          go_loopw [13] (fun i wr => i = .int .i64 0 ∧ Hid (Below wz.heap.size wz wr)) (fun i _ => 0)
          case atStart => exact ⟨rfl, Below.refl _ _⟩
          case round =>
            obtain ⟨rfl, hB⟩ := hrel
            have hBx := hB8.out.trans (hB.out.mono hB8.out.size)
            go_wp2_with (first
              | (go_at_call 9; refine (hlive _).mono ?_; rintro e w10 ⟨rfl, hb10⟩))
            go_ret
            exact ⟨rfl, hBx.trans (hb10.mono hBx.size)⟩
/-! ### THE ROW's STEP -/
set_option maxRecDepth 100000 in
theorem lifted (os : Os) (started : os.Started) (H : Type) (enc : TypeId × Value → H) :
    ReturnsInHanded {} Tryz.checked os 6 .any (Rows.seriesScalarSpec.pre6 enc Tryz.prog Tryz.f6 Rows.seriesScalarRow.domain false) (Rows.seriesScalarSpec.post enc Tryz.prog Tryz.f6 false true false false) := by
  refine returnsInHanded_of_change_sized (C := Tryz.checked) own started (by kernel_rfl) Tryz.func6
    (ChangeSpec.witness6 (enc := enc) (C := Tryz.checked) false ⟨#[], #[.string ⟨#[]⟩, .slice none 0 0, .agg #[.int .i64 0, .int .i64 0]], []⟩ 8 (by kernel_rfl) (by kernel_rfl) (by kernel_rfl) (by kernel_rfl)) ?_
  intro W base args ds gs before hval0 hW hcnd hsz0 _
  have hsz : (DataW.weightsEach Tryz.prog (Tryz.f6.params.toList ++ Rows.seriesScalarSpec.plain.varTypes Tryz.prog) (ds ++ gs)).all (· ≤ reachBytes) = true := hsz0
  have hval : ∀ (j : Nat) t v, Tryz.f6.params[j]? = some t → args[j]? = some v → Value.okWide Tryz.prog W .any base t v := hval0
  have hW' := hW
  obtain ⟨p, q, hA0, hV, rfl, hfz, hnd⟩ := hW
  have hA : DataW.TrodAll enc Tryz.prog W 0 (fun _ => true) true Tryz.f6.params.toList args.toList ds p := hA0
  rw [Tryz.params6] at hA hval hsz
  obtain ⟨v0, vs0, d0, ds0, p0, q0, hargs, rfl, rfl, h0, r0⟩ := trodAll_cons hA
  obtain ⟨v1, vs1, d1, ds1, p1, q1, rfl, rfl, rfl, h1, r1⟩ := trodAll_cons r0
  obtain ⟨v2, vs2, d2, ds2, p2, q2, rfl, rfl, rfl, h2, r2⟩ := trodAll_cons r1
  obtain ⟨rfl, rfl, rfl⟩ := trodAll_nil r2
  obtain rfl : args = #[v0, v1, v2] := by cases args; simp_all
  obtain ⟨rfl, rfl⟩ := trodVars_none hV
  have k0 := h0
  have lt0 : ∀ x ∈ p0, x.block < W.heap.size := by obtain ⟨m, hm⟩ := k0; exact DataW.trod_lt m _ _ _ hm
  obtain ⟨s0, e0, hS0⟩ : ∃ s, v0 = .string s ∧ s.size ≤ reachBytes := by
    obtain ⟨fuel, hf⟩ := h0
    obtain ⟨x0, rfl, rfl, rfl, _⟩ := open_string Tryz.underlying9 (hval 0 9 v0 rfl rfl) k0
    refine str_of_trod hf (fun q hq => ?_)
    have := List.all_eq_true.1 hsz _ (DataW.weights_mem_each (j := 0) (t := 9) rfl rfl q hq)
    simpa using this
  subst e0
  have k1 := h1
  have lt1 : ∀ x ∈ p1, x.block < W.heap.size := by obtain ⟨m, hm⟩ := k1; exact DataW.trod_lt m _ _ _ hm
  obtain ⟨a1, n1, c1, rfl⟩ := okWide_slice Tryz.underlying33 (hval 1 33 v1 rfl rfl)
  obtain ⟨l1, hP1, hR1, hL1⟩ : ∃ l, Srs W (.slice a1 n1 c1) l ∧ (∀ p ∈ l, SeIn W p) ∧ l.length ≤ 4398046511104 := by
    obtain ⟨fuel, hf⟩ := h1
    refine srs_of_trod hf (fun q hq => ?_)
    have := List.all_eq_true.1 hsz _ (DataW.weights_mem_each (j := 1) (t := 33) rfl rfl q hq)
    simpa using this
  have k2 := h2
  have lt2 : ∀ x ∈ p2, x.block < W.heap.size := by obtain ⟨m, hm⟩ := k2; exact DataW.trod_lt m _ _ _ hm
  obtain ⟨u2, rfl⟩ := vl_arg (hval 2 25 v2 rfl rfl) h2
  clear hA0 hval0
  refine (walk s0 a1 n1 c1 l1 u2 W hS0 hP1 hR1 hL1).mono fun e W' ⟨he, bel⟩ => ?_
  subst he
  exact ⟨_, rfl, _, _, _, [], _, [], hW', trodAll_mk1 (shut_bool Tryz.underlying4 _), (trodAll_cons_mk (Below.trod laidOut (by kernel_rfl) (of_decide_eq_true (by kernel_rfl)) k0 bel lt0) (trodAll_cons_mk (Below.trod laidOut (by kernel_rfl) (of_decide_eq_true (by kernel_rfl)) k1 bel lt1) (trodAll_cons_mk (Below.trod laidOut (by kernel_rfl) (of_decide_eq_true (by kernel_rfl)) k2 bel lt2) trodAll_mk0))), rfl, bel.frame _, fun h => by cases h⟩
theorem over : Rows.seriesScalarRow.holds Tryz.pinned (OpenSpec.ofChange Rows.seriesScalarSpec) :=
  OpenClaim.holds_of_wide 6 Tryz.f6 rfl rfl rfl rfl rfl rfl rfl ⟨rfl, rfl, rfl, rfl, rfl⟩ rfl rfl rfl rfl rfl (by kernel_rfl) Tryz.func6 (by kernel_rfl)
    (of_decide_eq_true (by kernel_rfl)) (by unfold Func.isWrapper; first | (rw [if_pos (by decide +kernel)]; kernel_rfl) | (rw [if_neg (by decide +kernel)]; exact ⟨rfl, rfl⟩))
    (fun os started H enc _ => lifted os started H enc)
end Go.Proofs.YtejdmielhaldaaaGreat.seriesScalar
namespace Go.Proofs.YtejdmielhaldaaaGreat
/-- The statement. -/
theorem seriesScalar_holds : Rows.SeriesScalarSaid := seriesScalar.over
#print axioms seriesScalar_holds
end Go.Proofs.YtejdmielhaldaaaGreat
