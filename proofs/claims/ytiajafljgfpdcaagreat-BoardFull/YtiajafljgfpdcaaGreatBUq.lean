/- board.Update, result by result. -/
import Derived.Test.YtiajafljgfpdcaaGreatBUpBCk
namespace Go.Proofs.YtiajafljgfpdcaaGreat
set_option linter.unusedVariables false
open Go.RowKit
set_option maxRecDepth 100000 in
set_option maxHeartbeats 4000000 in
theorem update_each (vb vo vl : Value) (l : List En) (own : List Lb) (rs : List Rn) (h : S.Hd) (iv now : Int) (w : World) (g : UpIn w vb vo vl l own rs h iv now) (ha : ¬ (decide (0 < l.length) && ofAllB rs) = true) :
    Calls Tryz.prog 11 #[vb, S.encH h, vo, .int .i64 iv, .int .i64 now, vl] w fun e w' => ∃ y z E C, e = .returned (.tuple #[y, z]) ∧ Ens w' y E ∧ Cns w' z C ∧ E.map enF = leftL iv now (heardF h own now rs l) ∧ C.map (·.c) = toldL iv now (heardF h own now rs l) ∧ Below w.heap.size w w' := by
  have hb0 : Below w.heap.size w (w.alloc (.cells #[.int .i64 h.fo, .int .i64 h.keep, .int .i64 h.nd, .int .i64 h.oe] 23)) := (Below.refl _ w).alloc (Nat.le_refl _) _
  have hx0 : (w.alloc (.cells #[.int .i64 h.fo, .int .i64 h.keep, .int .i64 h.nd, .int .i64 h.oe] 23)).heap[w.heap.size]? = some (.cells #[.int .i64 h.fo, .int .i64 h.keep, .int .i64 h.nd, .int .i64 h.oe] 23 (0, 0)) := heap_new _ _
  obtain ⟨ba, bc, rfl⟩ := g.ens.1.shape
  obtain ⟨la, lc, rfl⟩ := g.rns.1.shape
  have hbk := fun W (hW : Below w.heap.size w W) => byKey_any _ l W (g.ens.grow hW) g.rise (by have := g.len; omega)
  have hk0 := hbk _ hb0.drew
  have q0 : (w.alloc (.cells #[.int .i64 h.fo, .int .i64 h.keep, .int .i64 h.nd, .int .i64 h.oe] 23)).cell? ⟨w.heap.size, 0, none⟩ = some (.int .i64 h.fo) := by unfold World.cell?; rw [hx0]; rfl
  have q1 : (w.alloc (.cells #[.int .i64 h.fo, .int .i64 h.keep, .int .i64 h.nd, .int .i64 h.oe] 23)).cell? ⟨w.heap.size, 1, none⟩ = some (.int .i64 h.keep) := by unfold World.cell?; rw [hx0]; rfl
  have q2 : (w.alloc (.cells #[.int .i64 h.fo, .int .i64 h.keep, .int .i64 h.nd, .int .i64 h.oe] 23)).cell? ⟨w.heap.size, 2, none⟩ = some (.int .i64 h.nd) := by unfold World.cell?; rw [hx0]; rfl
  have q3 : (w.alloc (.cells #[.int .i64 h.fo, .int .i64 h.keep, .int .i64 h.nd, .int .i64 h.oe] 23)).cell? ⟨w.heap.size, 3, none⟩ = some (.int .i64 h.oe) := by unfold World.cell?; rw [hx0]; rfl
  unfold S.encH
  go_enter Tryz.func11, Tryz.ntmps11
  go_upto_region 1 with fail
  have keep : ∀ X {b o : Nat} {u : Value}, Below (w.alloc (.cells #[.int .i64 h.fo, .int .i64 h.keep, .int .i64 h.nd, .int .i64 h.oe] 23)).heap.size (w.alloc (.cells #[.int .i64 h.fo, .int .i64 h.keep, .int .i64 h.nd, .int .i64 h.oe] 23)) X → (w.alloc (.cells #[.int .i64 h.fo, .int .i64 h.keep, .int .i64 h.nd, .int .i64 h.oe] 23)).cell? ⟨b, o, none⟩ = some u → X.cell? ⟨b, o, none⟩ = some u := fun X b o u hX h => (hX.cell (p := ⟨b, o, none⟩) (World.block_lt_of_cell? _ _ h)).trans h
  have hsz1 : w.heap.size ≤ (w.alloc (.cells #[.int .i64 h.fo, .int .i64 h.keep, .int .i64 h.nd, .int .i64 h.oe] 23)).heap.size := hb0.size
  generalize (w.alloc (.cells #[.int .i64 h.fo, .int .i64 h.keep, .int .i64 h.nd, .int .i64 h.oe] 23)) = W1 at *
  refine Code.wp_mono (Q := UpQ w (.slice ba l.length bc) vo (.slice la rs.length lc) l h iv now w.heap.size) (upQ ?cont) ?_
  case cont =>
    rintro a W ⟨p, b, t19, t20, t21, t22, t23, t24, rfl, hE, hM, hB, hp, hb⟩
    have hof := isOfAll_any (.slice la rs.length lc) rs W (g.rns.grow hB) (by have := g.rlen; omega) (fun r hr => by have := g.rl r hr; omega)
    have hlen := g.len
    have hrlen := g.rlen
    have hL0 : Hid (RiseG Ae.ls ((l.map enF).map beginA)) := (rise_map (f := fun e : List Lb × S.Inst => e.1) beginA (fun x => rfl)).2 ((rise_map (f := fun e : En => e.ls) (g := fun e : List Lb × S.Inst => e.1) enF (fun x => rfl)).2 g.rise.1)
    have hF0 : FineL now ((l.map enF).map beginA) := fun s hs _ => by
      rw [List.map_map] at hs
      obtain ⟨e, he, rfl⟩ := List.mem_map.1 hs
      exact g.fine e he
    have hS0 : SeenL now ((l.map enF).map beginA) := fun s hs => by
      rw [List.map_map] at hs
      obtain ⟨e, he, rfl⟩ := List.mem_map.1 hs
      exact g.seen e he
    have hprops : Hid (∀ k, k ≤ rs.length → RiseG Ae.ls (heardK h own now rs ((l.map enF).map beginA) k) ∧ FineL now (heardK h own now rs ((l.map enF).map beginA) k) ∧ SeenL now (heardK h own now rs ((l.map enF).map beginA) k) ∧ (heardK h own now rs ((l.map enF).map beginA) k).length ≤ max ((l.map enF).map beginA).length 100) := heardK_props (h := h) (own := own) (rs := rs) hL0.out hF0 hS0
    have hHF : Hid (heardK h own now rs ((l.map enF).map beginA) rs.length = heardF h own now rs l) := (heardF_each ha).symm
    have hH0 : Hid (HeardAt W p b h iv now (heardK h own now rs ((l.map enF).map beginA) 0) (l.map stE)) := ⟨hE, hM, fun s hs => (by
      obtain ⟨e, he, rfl⟩ := List.mem_map.1 hs
      exact Sls.grow (g.ens.2 e he) hB), fst_map l⟩
    replace hB : Hid (Below w.heap.size w W) := hB
    clear hbk hk0 keep q0 q1 q2 q3 hx0 hE hM hF0 hS0
    have hloop : ∀ (P : World → Prop), (∀ W' (M : List Sd), HeardAt W' p b h iv now (heardK h own now rs ((l.map enF).map beginA) 0) M → Below w.heap.size w W' → P W') → (∀ W', Below W.heap.size W W' → P W') := fun P hP W' hW' => hP W' _ (hH0.out.grow hW') (hB.out.trans (hW'.mono hB.out.size))
    clear hloop
    have hcase : (¬ 0 < l.length) ∨ (0 < l.length ∧ ofAllB rs = false) := by
      by_cases h1 : 0 < l.length
      · refine .inr ⟨h1, ?_⟩
        cases h2 : ofAllB rs with
        | false => rfl
        | true => exact absurd (by simp [h1, h2]) ha
      · exact .inl h1
    clear ha
    rcases hcase with hpos | ⟨hpos, hall⟩
    · have hposi : ¬ (0 : Int) < (l.length : Int) := by omega
      have hHs : Hid (∃ M, HeardAt W p b h iv now (heardK h own now rs ((l.map enF).map beginA) 0) M) := ⟨_, hH0.out⟩
      have hBs : Hid (Below w.heap.size w W) := hB
      clear hof hH0
      go_wp2_with fail
      go_loopw [48] (fun i wr => ∃ k : Nat, k ≤ rs.length ∧ i = .int .i64 k ∧ Hid (∃ M, HeardAt wr p b h iv now (heardK h own now rs ((l.map enF).map beginA) k) M) ∧ Hid (Below w.heap.size w wr)) (fun i _ => rs.length - (intOf i).toNat)
      case atStart => exact ⟨0, Nat.zero_le _, rfl, hHs, hBs⟩
      case round =>
        obtain ⟨k, hk, rfl, hHk, hB⟩ := hrel
        obtain ⟨M, hH⟩ := hHk.out
        replace hH : Hid (HeardAt wr p b h iv now (heardK h own now rs ((l.map enF).map beginA) k) M) := hH
        obtain ⟨pr1, pr2, pr3, pr4⟩ := hprops.out k hk
        have hMl : M.length ≤ 1000 := by
          have h1 : M.length = (heardK h own now rs ((l.map enF).map beginA) k).length := by rw [← hH.out.eq]; simp
          rw [h1]
          have h2 : ((l.map enF).map beginA).length = l.length := by simp
          rw [h2] at pr4
          omega
        by_cases hlt : k < rs.length
        · have hki : (k : Int) < (rs.length : Int) := by omega
          obtain ⟨bl, ol, rfl, hatr⟩ := rn_at (Sls.grow g.rns.1 hB.out) k hlt
          obtain ⟨y0, y1, y2, y3⟩ := at_rn hatr
          have hmem := getD_mem rs rn0 k hlt
          have hsucc := heardK_succ (h := h) (own := own) (now := now) (L := (l.map enF).map beginA) hlt
          have hrl := g.rl _ hmem
          have hrr := g.rr _ hmem
          have hlb := Sls.grow (g.rns.2 _ hmem) hB.out
          generalize rs.getD k rn0 = r at *
          have hG5 : Below wr.heap.size wr (wr.alloc (rO r)) := (Below.refl _ wr).alloc (Nat.le_refl _) _
          obtain ⟨r0, r1, r2, r3⟩ := (rNew wr r).cells
          have hhear := hear_any p b h iv now own vo r _ M (wr.alloc (rO r)) (hH.out.grow hG5) (Sls.grow hlb hG5) (Sls.grow (Sls.grow g.ownv hB.out) hG5) hrl g.ownl hrr g.ownr (by omega) pr2
          have hB5 : Hid (Below w.heap.size w (wr.alloc (rO r))) := hB.out.trans (hG5.mono hB.out.size)
          unfold encR at hhear
          replace hsucc : Hid (heardK h own now rs ((l.map enF).map beginA) (k + 1) = hearL h own now r.r (heardK h own now rs ((l.map enF).map beginA) k)) := hsucc
          clear pr1 pr2 pr3 pr4 hatr hmem hlb
          go_wp2_with (go_at_call 37; refine hhear.mono ?_; rintro e w9 ⟨rfl, M', hH9, hG9⟩)
          refine ⟨⟨k + 1, by omega, by go_num, ⟨M', by rw [hsucc.out]; exact hH9⟩, hB5.out.grown hG9 hB5.out.size (fun k e => by cases e; exact hb)⟩, ?_⟩
          simp [intOf]; omega
        · obtain rfl : k = rs.length := by omega
          have hki : ¬ (rs.length : Int) < (rs.length : Int) := by omega
          have hseen : ∀ s ∈ M, -9223372036854775808 ≤ now - s.s.x.seen ∧ now - s.s.x.seen ≤ 9223372036854775807 := fun s hs => pr3 s.s (by rw [← hH.out.eq]; exact List.mem_map_of_mem hs)
          have htold := told_any p b h iv now _ M wr hH.out (by omega) g.iv hseen
          rw [hHF.out] at htold
          clear pr1 pr2 pr3 pr4
          go_wp2_with (go_at_call 38; refine htold.mono ?_; rintro e w4 ⟨y, z, E, C, rfl, hEn, hCn, hE2, hC2, hb4⟩)
          go_ret2
          exact ⟨_, _, E, C, rfl, hEn, hCn, hE2, hC2, hB.out.trans (hb4.mono hB.out.size)⟩
    · have hposi : (0 : Int) < (l.length : Int) := by omega
      rw [hall] at hof
      clear hall
      go_wp2_with (go_at_call 34; refine hof.mono ?_; rintro e w3 ⟨rfl, hb3⟩)
      have hHs : Hid (∃ M, HeardAt w3 p b h iv now (heardK h own now rs ((l.map enF).map beginA) 0) M) := ⟨_, hH0.out.grow hb3⟩
      have hBs : Hid (Below w.heap.size w w3) := hB.out.trans (hb3.mono hB.out.size)
      clear hof hH0 hB
      go_loopw [48] (fun i wr => ∃ k : Nat, k ≤ rs.length ∧ i = .int .i64 k ∧ Hid (∃ M, HeardAt wr p b h iv now (heardK h own now rs ((l.map enF).map beginA) k) M) ∧ Hid (Below w.heap.size w wr)) (fun i _ => rs.length - (intOf i).toNat)
      case atStart => exact ⟨0, Nat.zero_le _, rfl, hHs, hBs⟩
      case round =>
        obtain ⟨k, hk, rfl, hHk, hB⟩ := hrel
        obtain ⟨M, hH⟩ := hHk.out
        replace hH : Hid (HeardAt wr p b h iv now (heardK h own now rs ((l.map enF).map beginA) k) M) := hH
        obtain ⟨pr1, pr2, pr3, pr4⟩ := hprops.out k hk
        have hMl : M.length ≤ 1000 := by
          have h1 : M.length = (heardK h own now rs ((l.map enF).map beginA) k).length := by rw [← hH.out.eq]; simp
          rw [h1]
          have h2 : ((l.map enF).map beginA).length = l.length := by simp
          rw [h2] at pr4
          omega
        by_cases hlt : k < rs.length
        · have hki : (k : Int) < (rs.length : Int) := by omega
          obtain ⟨bl, ol, rfl, hatr⟩ := rn_at (Sls.grow g.rns.1 hB.out) k hlt
          obtain ⟨y0, y1, y2, y3⟩ := at_rn hatr
          have hmem := getD_mem rs rn0 k hlt
          have hsucc := heardK_succ (h := h) (own := own) (now := now) (L := (l.map enF).map beginA) hlt
          have hrl := g.rl _ hmem
          have hrr := g.rr _ hmem
          have hlb := Sls.grow (g.rns.2 _ hmem) hB.out
          generalize rs.getD k rn0 = r at *
          have hG5 : Below wr.heap.size wr (wr.alloc (rO r)) := (Below.refl _ wr).alloc (Nat.le_refl _) _
          obtain ⟨r0, r1, r2, r3⟩ := (rNew wr r).cells
          have hhear := hear_any p b h iv now own vo r _ M (wr.alloc (rO r)) (hH.out.grow hG5) (Sls.grow hlb hG5) (Sls.grow (Sls.grow g.ownv hB.out) hG5) hrl g.ownl hrr g.ownr (by omega) pr2
          have hB5 : Hid (Below w.heap.size w (wr.alloc (rO r))) := hB.out.trans (hG5.mono hB.out.size)
          unfold encR at hhear
          replace hsucc : Hid (heardK h own now rs ((l.map enF).map beginA) (k + 1) = hearL h own now r.r (heardK h own now rs ((l.map enF).map beginA) k)) := hsucc
          clear pr1 pr2 pr3 pr4 hatr hmem hlb
          go_wp2_with (go_at_call 37; refine hhear.mono ?_; rintro e w9 ⟨rfl, M', hH9, hG9⟩)
          refine ⟨⟨k + 1, by omega, by go_num, ⟨M', by rw [hsucc.out]; exact hH9⟩, hB5.out.grown hG9 hB5.out.size (fun k e => by cases e; exact hb)⟩, ?_⟩
          simp [intOf]; omega
        · obtain rfl : k = rs.length := by omega
          have hki : ¬ (rs.length : Int) < (rs.length : Int) := by omega
          have hseen : ∀ s ∈ M, -9223372036854775808 ≤ now - s.s.x.seen ∧ now - s.s.x.seen ≤ 9223372036854775807 := fun s hs => pr3 s.s (by rw [← hH.out.eq]; exact List.mem_map_of_mem hs)
          have htold := told_any p b h iv now _ M wr hH.out (by omega) g.iv hseen
          rw [hHF.out] at htold
          clear pr1 pr2 pr3 pr4
          go_wp2_with (go_at_call 38; refine htold.mono ?_; rintro e w4 ⟨y, z, E, C, rfl, hEn, hCn, hE2, hC2, hb4⟩)
          go_ret2
          exact ⟨_, _, E, C, rfl, hEn, hCn, hE2, hC2, hB.out.trans (hb4.mono hB.out.size)⟩
  have hZ1 : Below W1.heap.size W1 (W1.drew.alloc (.cells #[.map none, .int .i64 0, .int .i64 0, .int .i64 0, .int .i64 0, .int .i64 0, .int .i64 0] 82)) := ((Below.refl _ W1).drew).alloc (Nat.le_refl _) _
  have hk1 := hbk _ (hb0.trans (hZ1.mono hb0.size))
  have hZ3 : Below W1.heap.size W1 (W1.alloc (.cells #[.map none, .int .i64 0, .int .i64 0, .int .i64 0, .int .i64 0, .int .i64 0, .int .i64 0] 82)).drew := ((Below.refl _ W1).alloc (Nat.le_refl _) _).drew
  have z0 := keep _ hZ3 q0
  have z1 := keep _ hZ3 q1
  have z2 := keep _ hZ3 q2
  have z3 := keep _ hZ3 q3
  go_region_law (first
    | (go_simp; go_at_call 33; refine hk0.mono ?_; rintro e w2 ⟨b, rfl, hM2, hb2, hbb⟩; have hX2 : Below W1.heap.size W1 w2 := ((Below.refl _ W1).drew).trans (hb2.mono (Nat.le_refl _)); have y0 := keep _ hX2 q0; have y1 := keep _ hX2 q1; have y2 := keep _ hX2 q2; have y3 := keep _ hX2 q3; have hX3 : Below W1.heap.size W1 (w2.alloc (.cells #[.map none, .int .i64 0, .int .i64 0, .int .i64 0, .int .i64 0, .int .i64 0, .int .i64 0] 82)) := hX2.alloc hX2.size _; have v0 := keep _ hX3 q0; have v1 := keep _ hX3 q1; have v2 := keep _ hX3 q2; have v3 := keep _ hX3 q3)
    | (go_simp; go_at_call 33; refine hk1.mono ?_; rintro e w2 ⟨b, rfl, hM2, hb2, hbb⟩; have hX2 : Below W1.heap.size W1 w2 := hZ1.trans (hb2.mono hZ1.size); have y0 := keep _ hX2 q0; have y1 := keep _ hX2 q1; have y2 := keep _ hX2 q2; have y3 := keep _ hX2 q3; have hZ2 : w2.heap[W1.heap.size]? = some (.cells #[.map none, .int .i64 0, .int .i64 0, .int .i64 0, .int .i64 0, .int .i64 0, .int .i64 0] 82 (0, 0)) := ((hb2.block _ (by simp)).trans (heap_new W1.drew _)); have o0 : w2.cell? ⟨W1.heap.size, 0, none⟩ = some (.map none) := (by unfold World.cell?; rw [hZ2]; rfl); have o1 : w2.cell? ⟨W1.heap.size, 1, none⟩ = some (.int .i64 0) := (by unfold World.cell?; rw [hZ2]; rfl); have o2 : w2.cell? ⟨W1.heap.size, 2, none⟩ = some (.int .i64 0) := (by unfold World.cell?; rw [hZ2]; rfl); have o3 : w2.cell? ⟨W1.heap.size, 3, none⟩ = some (.int .i64 0) := (by unfold World.cell?; rw [hZ2]; rfl); have o4 : w2.cell? ⟨W1.heap.size, 4, none⟩ = some (.int .i64 0) := (by unfold World.cell?; rw [hZ2]; rfl); have o5 : w2.cell? ⟨W1.heap.size, 5, none⟩ = some (.int .i64 0) := (by unfold World.cell?; rw [hZ2]; rfl); have o6 : w2.cell? ⟨W1.heap.size, 6, none⟩ = some (.int .i64 0) := (by unfold World.cell?; rw [hZ2]; rfl); have of : ∀ i, w2.frozen? ⟨W1.heap.size, i, none⟩ = false := (fun i => by simp [World.frozen?, hZ2])))
  all_goals
    have hB2 : Below w.heap.size w w2 := hb0.trans (hX2.mono hb0.size)
    have hbb2 : w.heap.size ≤ b := Nat.le_trans hsz1 (by first | exact hbb | exact Nat.le_trans (by simp) hbb)
  · exact ⟨w2.heap.size, b, _, _, _, _, _, _, rfl, heap_new _ _, hM2.grow ((Below.refl _ w2).alloc (Nat.le_refl _) _), hB2.alloc hB2.size _, hB2.size, hbb2⟩
  · exact ⟨w2.heap.size, b, _, _, _, _, _, _, rfl, heap_new _ _, hM2.grow ((Below.refl _ w2).alloc (Nat.le_refl _) _), hB2.alloc hB2.size _, hB2.size, hbb2⟩
  · exact ⟨w2.heap.size, b, _, _, _, _, _, _, rfl, heap_new _ _, hM2.grow ((Below.refl _ w2).alloc (Nat.le_refl _) _), hB2.alloc hB2.size _, hB2.size, hbb2⟩
  · exact ⟨W1.heap.size, b, _, _, _, _, _, _, rfl, ev_set hZ2, map_set7 hM2 hZ2, bel_set7 hB2 hsz1, hsz1, hbb2⟩
  · exact ⟨W1.heap.size, b, _, _, _, _, _, _, rfl, ev_set hZ2, map_set7 hM2 hZ2, bel_set7 hB2 hsz1, hsz1, hbb2⟩
  · exact ⟨W1.heap.size, b, _, _, _, _, _, _, rfl, ev_set hZ2, map_set7 hM2 hZ2, bel_set7 hB2 hsz1, hsz1, hbb2⟩
/-- Update. -/
theorem update_any (vb vo vl : Value) (l : List En) (own : List Lb) (rs : List Rn) (h : S.Hd) (iv now : Int) (w : World) (g : UpIn w vb vo vl l own rs h iv now) :
    Calls Tryz.prog 11 #[vb, S.encH h, vo, .int .i64 iv, .int .i64 now, vl] w fun e w' => ∃ y z E C, e = .returned (.tuple #[y, z]) ∧ Ens w' y E ∧ Cns w' z C ∧ E.map enF = leftL iv now (heardF h own now rs l) ∧ C.map (·.c) = toldL iv now (heardF h own now rs l) ∧ Below w.heap.size w w' := by
  by_cases ha : (decide (0 < l.length) && ofAllB rs) = true
  · exact update_all vb vo vl l own rs h iv now w g ha
  · exact update_each vb vo vl l own rs h iv now w g ha
end Go.Proofs.YtiajafljgfpdcaaGreat
