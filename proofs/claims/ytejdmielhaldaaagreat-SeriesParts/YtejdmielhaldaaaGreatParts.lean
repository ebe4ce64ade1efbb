/-
  Of every two lists of small numbers at points: the sum, and how many, of both are those of the one and of the other added; the least of both is the lesser one of the two least.
-/
import Derived.Test.YtejdmielhaldaaaGreatRows
import Derived.WalkKit
import Derived.ProofKit
import Derived.OpenShut
import Derived.ShutString
import Derived.ChangeOld
import Derived.Below
import Derived.SizedLaws
import Derived.Test.YtejdmielhaldaaaGreatTaTd
import Derived.Test.YtejdmielhaldaaaGreatOb
import Derived.Test.YtejdmielhaldaaaGreatWq
import Derived.Test.YtejdmielhaldaaaGreatGs
namespace Go.Proofs.YtejdmielhaldaaaGreat.seriesParts
open Go.ChangeShapes Go.WideShapes Go.ChangeAt Go.RowKit
open Go.ChangeMaps (open_string shut_string)
set_option linter.unusedVariables false
theorem own : ownKnob Tryz.prog.godebug = none := by kernel_rfl
theorem laidOut : laidOutB Tryz.prog = true := by kernel_rfl
def how2 : List ByteArray := [⟨#[115, 117, 109]⟩, ⟨#[99, 111, 117, 110, 116]⟩]
def plus2 : List ByteArray := [⟨#[43]⟩, ⟨#[43]⟩]
theorem how2_at (k : Nat) (h : k < 2) : (how2.getD k ⟨#[]⟩ = ⟨#[115, 117, 109]⟩ ∨ how2.getD k ⟨#[]⟩ = ⟨#[99, 111, 117, 110, 116]⟩) ∧ plus2.getD k ⟨#[]⟩ = ⟨#[43]⟩ := by
  match k, h with
  | 0, _ => exact ⟨.inl rfl, rfl⟩
  | 1, _ => exact ⟨.inr rfl, rfl⟩
def PartsT (a b : List Pn) (how : ByteArray) : Prop := ∃ X Y Z : Vl, reduV how true a = X ∧ reduV how true b = Y ∧ reduV how false (a ++ b) = Z ∧ doV ⟨#[43]⟩ [X, Y] = Z ∧ doE ⟨#[43]⟩ [X, Y] = 0 ∧ redE how a = 0 ∧ redE how b = 0 ∧ redE how (a ++ b) = 0
def PartsM (a b : List Pn) : Prop := ∃ x y : Int, reduV ⟨#[109, 105, 110]⟩ true a = ⟨1, x⟩ ∧ reduV ⟨#[109, 105, 110]⟩ true b = ⟨1, y⟩ ∧ reduV ⟨#[109, 105, 110]⟩ true (a ++ b) = ⟨1, min x y⟩
theorem own_shape {w : World} {base : Nat} {v : Value} {l : List Pn} (h : OwnP w base v l) : ∃ a n c, v = .slice a n c ∧ Hid (n = l.length) := by
  obtain ⟨a, c, e⟩ := h.shape
  exact ⟨a, _, c, e, rfl⟩
set_option maxRecDepth 100000 in
set_option maxHeartbeats 16000000 in
/-- THE WALK. -/
theorem walk (a1 : Option Addr) (n1 c1 : Nat) (A : List Pn) (a2 : Option Addr) (n2 c2 : Nat) (B : List Pn) (w : World) (hu : Pns w (.slice a1 n1 c1) A) (_ : True) (la : A.length ≤ 5864062014634) (hv : Pns w (.slice a2 n2 c2) B) (_ : True) (lb : B.length ≤ 5864062014634) :
    Calls Tryz.prog 7 #[.slice a1 n1 c1, .slice a2 n2 c2] w fun e w' => e = .returned (.bool true) ∧ Below w.heap.size w w' := by
  have hlive := live_ok
  have hE := fun x W => enum_any x W
  have hn1 : Hid (n1 = A.length) := by obtain ⟨a', c', e⟩ := hu.shape; injection e
  have hn2 : Hid (n2 = B.length) := by obtain ⟨a', c', e⟩ := hv.shape; injection e
  rw [← hn1.out] at la
  rw [← hn2.out] at lb
  replace hu : Hid (Pns w (.slice a1 n1 c1) A) := hu
  replace hv : Hid (Pns w (.slice a2 n2 c2) B) := hv
  go_enter Tryz.func7, Tryz.ntmps7
  by_cases h1 : n1 ≤ 60
  case neg =>
    have h1i : (60 : Int) < (n1 : Int) := by omega
    go_wp2_with (first
      | (go_at_call 9; refine (hlive _).mono ?_; rintro e w2 ⟨rfl, hb2⟩))
    go_ret
    exact ⟨rfl, hb2⟩
  case pos =>
    have h1i : ¬ (60 : Int) < (n1 : Int) := by omega
    by_cases h2 : n2 ≤ 60
    case neg =>
      have h2i : (60 : Int) < (n2 : Int) := by omega
      go_wp2_with (first
        | (go_at_call 9; refine (hlive _).mono ?_; rintro e w2 ⟨rfl, hb2⟩))
      go_ret
      exact ⟨rfl, hb2⟩
    case pos =>
      have h2i : ¬ (60 : Int) < (n2 : Int) := by omega
      clear la lb
      have hoe : OwnP (w.alloc (.cells #[] 51)) w.heap.size (.slice (some ⟨w.heap.size, 0, none⟩) 0 0) [] := own_empty (T := TP) w w.heap.size (Nat.le_refl _)
      have hb0 := bW0 w (.cells #[] 51)
      have hu0 := Sls.grow hu.out hb0
      have hl1 : ([] : List Pn).length + A.length ≤ 1000000000 := by rw [← hn1.out]; simp; omega
      have hl2 : A.length + B.length ≤ 1000000000 := by rw [← hn1.out, ← hn2.out]; omega
      go_wp2_with (first
        | (at_builtin; refine appR TP rfl (.tmp 34) (.tmp 35) rfl w.heap.size _ _ [] A rfl rfl hoe hu0 (by simp) hl1 ?_; intro v5 w5 ho5 hg5; rw [List.nil_append] at ho5; have hb5 := hb0.trans (hoe.grows (by simp) hg5); have hv5 := Sls.grow hv.out hb5)
        | (at_builtin; refine appR TP rfl (.tmp 36) (.tmp 37) rfl w.heap.size _ _ A B rfl rfl ho5 hv5 hb5.size hl2 ?_; intro v6 w6 ho6 hg6; have hb6 := hb5.trans (ho5.grows hb5.size hg6); obtain ⟨a6, n3, c6, rfl, hn3⟩ := own_shape ho6))
      have hP6 : Hid (Pns w6 (.slice a6 n3 c6) (A ++ B)) := ho6.sls
      have hn36 : n3 ≤ 120 := by rw [hn3.out, List.length_append, ← hn1.out, ← hn2.out]; omega
      clear ho6 ho5 hg6 hg5 hv5 hu0 hoe hb0 hl1 hl2
      replace hb6 : Hid (Below w.heap.size w w6) := hb6
      clear hb5
      go_loopw [6] (fun i wr => ∃ k : Nat, k ≤ n3 ∧ i = .int .i64 k ∧ Hid (∀ j, j < k → Sm ((A ++ B).getD j pn0)) ∧ Hid (Below w6.heap.size w6 wr)) (fun i _ => n3 - (intOf i).toNat)
      case atStart => exact ⟨0, Nat.zero_le _, rfl, (fun j hj => absurd hj (Nat.not_lt_zero _)), Below.refl _ _⟩
      case round =>
        obtain ⟨k, hk, rfl, hsm, hB⟩ := hrel
        have hBd := hB.out
        by_cases hlt : k < n3
        · have hki : (k : Int) < (n3 : Int) := by omega
          obtain ⟨b, o, rfl, x0, x1, x2⟩ := pn_at (Sls.grow hP6.out hBd) k (by rw [← hn3.out]; exact hlt)
          have hsk : Hid (Sm ((A ++ B).getD k pn0) → ∀ j, j < k + 1 → Sm ((A ++ B).getD j pn0)) := fun h j hj => by
            by_cases e : j = k
            · rw [e]; exact h
            · exact hsm.out j (by omega)
          generalize (A ++ B).getD k pn0 = p at *
          have hBw := hb6.out.trans (hBd.mono hb6.out.size)
          have hb7 := hBw.alloc hBw.size (.cells #[.int .i64 p.v.kind, .int .i64 p.v.n] 25)
          have hB7 := hBd.alloc hBd.size (.cells #[.int .i64 p.v.kind, .int .i64 p.v.n] 25)
          by_cases e1 : p.v.kind = 1
          · have e1b : (p.v.kind == 1) = true := by simpa using e1
            have e1c : (p.v.kind != 1) = false := by simpa using e1
            by_cases e2 : (1000000000 : Int) < p.v.n
            · clear e1
              go_wp2_with (first
                | (go_at_call 9; refine (hlive _).mono ?_; rintro e w8 ⟨rfl, hb8⟩))
              go_ret
              exact ⟨rfl, hb7.trans (hb8.mono hb7.size)⟩
            · by_cases e3 : p.v.n < (-1000000000 : Int)
              · clear e1
                go_wp2_with (first
                  | (go_at_call 9; refine (hlive _).mono ?_; rintro e w8 ⟨rfl, hb8⟩))
                go_ret
                exact ⟨rfl, hb7.trans (hb8.mono hb7.size)⟩
              · have hs2 : Hid _ := hsk.out ⟨e1, by omega, by omega⟩
                clear e1
                go_wp2
                refine ⟨⟨k + 1, by omega, by go_num, hs2, hB7⟩, ?_⟩
                simp [intOf]; omega
          · have e1b : (p.v.kind == 1) = false := by simpa using e1
            have e1c : (p.v.kind != 1) = true := by simpa using e1
            clear e1
            go_wp2_with (first
              | (go_at_call 9; refine (hlive _).mono ?_; rintro e w8 ⟨rfl, hb8⟩))
            go_ret
            exact ⟨rfl, hb7.trans (hb8.mono hb7.size)⟩
        · obtain rfl : n3 = k := by omega
          have hki : ¬ (n3 : Int) < (n3 : Int) := by omega
          have hBw := hb6.out.trans (hBd.mono hb6.out.size)
          have hall : ∀ p ∈ A ++ B, Sm p := fun p hp => by
            obtain ⟨j, hj, rfl⟩ := List.getElem_of_mem hp
            have := hsm.out j (by rw [hn3.out]; exact hj)
            rw [List.getD_eq_getElem?_getD, List.getElem?_eq_getElem hj] at this
            exact this
          replace hall : Hid (∀ p ∈ A ++ B, Sm p) := hall
          clear hsm
          by_cases z1 : n1 = 0
          · have z1i : ((n1 : Int) == 0) = true := by simp [z1]
            clear z1
            go_wp2_with (first
              | (go_at_call 9; refine (hlive _).mono ?_; rintro e w8 ⟨rfl, hb8⟩))
            go_ret
            exact ⟨rfl, hBw.trans (hb8.mono hBw.size)⟩
          · have z1i : ((n1 : Int) == 0) = false := by simpa using z1
            by_cases z2 : n2 = 0
            · have z2i : ((n2 : Int) == 0) = true := by simp [z2]
              clear z2 z1
              go_wp2_with (first
                | (go_at_call 9; refine (hlive _).mono ?_; rintro e w8 ⟨rfl, hb8⟩))
              go_ret
              exact ⟨rfl, hBw.trans (hb8.mono hBw.size)⟩
            · have z2i : ((n2 : Int) == 0) = false := by simpa using z2
              have hA0 : A ≠ [] := fun e => z1 (by rw [hn1.out, e]; rfl)
              have hB0 : B ≠ [] := fun e => z2 (by rw [hn2.out, e]; rfl)
              have hAs : ∀ p ∈ A, Sm p := fun p hp => hall.out p (List.mem_append.2 (.inl hp))
              have hBs : ∀ p ∈ B, Sm p := fun p hp => hall.out p (List.mem_append.2 (.inr hp))
              have hpm : Hid (PartsM A B) := parts_min hAs hBs hA0 hB0 (by rw [← hn1.out]; exact h1) (by rw [← hn2.out]; exact h2)
              have hpt : Hid (∀ how : ByteArray, (how = ⟨#[115, 117, 109]⟩ ∨ how = ⟨#[99, 111, 117, 110, 116]⟩) → PartsT A B how) := fun how hh => by
                obtain ⟨x, y, u1, u2, u3, u4, u5⟩ := parts_two hh hAs hBs hA0 hB0 (by rw [← hn1.out]; exact h1) (by rw [← hn2.out]; exact h2)
                exact ⟨_, _, _, u1, u2, u3, u4, u5⟩
              have hPa : Hid _ := Sls.grow hu.out hBw
              have hPb : Hid _ := Sls.grow hv.out hBw
              have hPc : Hid _ := Sls.grow hP6.out hBd
              replace hBw : Hid (Below w.heap.size w wr) := hBw
              clear hAs hBs hA0 hB0 z1 z2 hall hBd hB
              generalize wr = wb at *
              go_wp2
              have r1 := sls_flat (E := encS) wb plus2 #[.string ⟨#[43]⟩, .string ⟨#[43]⟩] 9 rfl
              have r2 := sls_flat (E := encS) (wb.alloc (.cells #[.string ⟨#[43]⟩, .string ⟨#[43]⟩] 9)) how2 #[.string ⟨#[115, 117, 109]⟩, .string ⟨#[99, 111, 117, 110, 116]⟩] 9 rfl
              rw [World.size_alloc] at r2
              have q1 := bW0 wb (.cells #[.string ⟨#[43]⟩, .string ⟨#[43]⟩] 9)
              have q2 := bW0 (wb.alloc (.cells #[.string ⟨#[43]⟩, .string ⟨#[43]⟩] 9)) (.cells #[.string ⟨#[115, 117, 109]⟩, .string ⟨#[99, 111, 117, 110, 116]⟩] 9)
              have q3 := q1.trans (q2.mono q1.size)
              replace r1 : Hid _ := Sls.grow r1 q2
              replace r2 : Hid _ := r2
              have hP1 : Hid _ := Sls.grow hPa.out q3
              have hP2 : Hid _ := Sls.grow hPb.out q3
              have hP3 : Hid _ := Sls.grow hPc.out q3
              have hBR : Hid _ := hBw.out.trans (q3.mono hBw.out.size)
              clear q1 q2 q3 hPa hPb hPc hBw
              generalize (wb.alloc (.cells #[.string ⟨#[43]⟩, .string ⟨#[43]⟩] 9)).alloc (.cells #[.string ⟨#[115, 117, 109]⟩, .string ⟨#[99, 111, 117, 110, 116]⟩] 9) = WR at *
              go_loopw [10] (fun i wr => ∃ k : Nat, k ≤ 2 ∧ i = .int .i64 k ∧ Hid (Below WR.heap.size WR wr)) (fun i _ => 2 - (intOf i).toNat)
              case atStart => exact ⟨0, Nat.zero_le _, rfl, Below.refl _ _⟩
              case round =>
                obtain ⟨k, hk, rfl, hB⟩ := hrel
                have hBd := hB.out
                by_cases hlt : k < 2
                · have hki : (k : Int) < 2 := by omega
                  have hcc : Hid (∀ W, Below wr.heap.size wr W → W.cell? ⟨wb.heap.size, k, none⟩ = some (.string ⟨#[43]⟩) ∧ W.cell? ⟨wb.heap.size + 1, k, none⟩ = some (.string (how2.getD k ⟨#[]⟩))) := fun W h => by
                    have hW := hBd.trans (h.mono hBd.size)
                    obtain ⟨b1, o1, e, y1⟩ := tx_at (Sls.grow r1.out hW) k hlt
                    cases e
                    obtain ⟨b2, o2, e, y2⟩ := tx_at (Sls.grow r2.out hW) k hlt
                    cases e
                    rw [(how2_at k hlt).2] at y1
                    simp only [Nat.zero_add] at y1 y2
                    exact ⟨y1, y2⟩
                  obtain ⟨X, Y, Z, t1, t2, t3, t4, t5, t6, t7, t8⟩ := hpt.out _ (how2_at k hlt).1
                  generalize how2.getD k ⟨#[]⟩ = how at *
                  have hr1 : Hid (∀ W, Below WR.heap.size WR W → Calls Tryz.prog 10 #[.string how, .bool true, .slice a1 n1 c1] W fun e w' => e = .returned (.tuple #[.agg #[.int .i64 X.kind, .int .i64 X.n], .int .i64 0]) ∧ Below W.heap.size W w') := fun W h => by
                    have := reduce_any how true _ A W (Sls.grow hP1.out h) (by rw [← hn1.out]; omega)
                    rw [t1, t6] at this
                    exact this
                  have hr2 : Hid (∀ W, Below WR.heap.size WR W → Calls Tryz.prog 10 #[.string how, .bool true, .slice a2 n2 c2] W fun e w' => e = .returned (.tuple #[.agg #[.int .i64 Y.kind, .int .i64 Y.n], .int .i64 0]) ∧ Below W.heap.size W w') := fun W h => by
                    have := reduce_any how true _ B W (Sls.grow hP2.out h) (by rw [← hn2.out]; omega)
                    rw [t2, t7] at this
                    exact this
                  have hr3 : Hid (∀ W, Below WR.heap.size WR W → Calls Tryz.prog 10 #[.string how, .bool false, .slice a6 n3 c6] W fun e w' => e = .returned (.tuple #[.agg #[.int .i64 Z.kind, .int .i64 Z.n], .int .i64 0]) ∧ Below W.heap.size W w') := fun W h => by
                    have := reduce_any how false _ (A ++ B) W (Sls.grow hP3.out h) (by rw [← hn3.out]; omega)
                    rw [t3, t8] at this
                    exact this
                  have hdo : Hid (∀ W v, Vls W v [X, Y] → Calls Tryz.prog 25 #[.string ⟨#[43]⟩, v] W fun e w' => e = .returned (.tuple #[.agg #[.int .i64 Z.kind, .int .i64 Z.n], .int .i64 0]) ∧ Below W.heap.size W w') := fun W v h => by
                    have := rdo_any ⟨#[43]⟩ v _ W h (by simp)
                    rw [t4, t5] at this
                    exact this
                  clear t1 t2 t3 t4 t5 t6 t7 t8
                  obtain ⟨xo, xh⟩ := hcc.out wr (Below.refl _ _)
                  have hc1 := hr1.out wr hBd
                  go_wp2_with (first
                    | (go_at_call 10; (with_reducible refine hc1.mono ?_); rintro e w12 ⟨rfl, hb12⟩; have g12 := hb12.alloc hb12.size (.cells #[.int .i64 X.kind, .int .i64 X.n] 25); have G12 := hBd.trans (g12.mono hBd.size); have hc2 := hr2.out _ G12; have v12 : VlAt (w12.alloc (.cells #[.int .i64 X.kind, .int .i64 X.n] 25)) w12.heap.size X := vlNew w12 X; obtain ⟨xo, xh⟩ := hcc.out _ g12)
                    | (go_at_call 10; (with_reducible refine hc2.mono ?_); rintro e w13 ⟨rfl, hb13⟩; have f13 := hb13.alloc hb13.size (.cells #[.int .i64 Y.kind, .int .i64 Y.n] 25); have g13 := g12.trans (f13.mono g12.size); have G13 := G12.trans (f13.mono G12.size); have hc3 := hr3.out _ G13; have v13 : VlAt (w13.alloc (.cells #[.int .i64 Y.kind, .int .i64 Y.n] 25)) w13.heap.size Y := vlNew w13 Y; have u13 := v12.grow f13; obtain ⟨xo, xh⟩ := hcc.out _ g13)
                    | (go_at_call 10; (with_reducible refine hc3.mono ?_); rintro e w14 ⟨rfl, hb14⟩; have f14 := hb14.alloc hb14.size (.cells #[.int .i64 Z.kind, .int .i64 Z.n] 25); have g14 := g13.trans (f14.mono g13.size); have G14 := G13.trans (f14.mono G13.size); have v14 : VlAt (w14.alloc (.cells #[.int .i64 Z.kind, .int .i64 Z.n] 25)) w14.heap.size Z := vlNew w14 Z; have u14 := v13.grow f14; have s14 := u13.grow f14))
                  generalize w14.alloc (.cells #[.int .i64 Z.kind, .int .i64 Z.n] 25) = U at *
                  have fo : ∀ p : Gq.Out (Gq.growS U.heap.size Z) U, p.W.cell? ⟨wb.heap.size, k, none⟩ = some (.string ⟨#[43]⟩) := fun p => (hcc.out _ (g14.trans (p.h.1.mono g14.size))).1
                  have fx0 : ∀ p : Gq.Out (Gq.growS U.heap.size Z) U, p.W.cell? ⟨w12.heap.size, 0, none⟩ = some (.int .i64 X.kind) := fun p => (s14.grow p.h.1).cells.1
                  have fx1 : ∀ p : Gq.Out (Gq.growS U.heap.size Z) U, p.W.cell? ⟨w12.heap.size, 1, none⟩ = some (.int .i64 X.n) := fun p => (s14.grow p.h.1).cells.2
                  have fy0 : ∀ p : Gq.Out (Gq.growS U.heap.size Z) U, p.W.cell? ⟨w13.heap.size, 0, none⟩ = some (.int .i64 Y.kind) := fun p => (u14.grow p.h.1).cells.1
                  have fy1 : ∀ p : Gq.Out (Gq.growS U.heap.size Z) U, p.W.cell? ⟨w13.heap.size, 1, none⟩ = some (.int .i64 Y.n) := fun p => (u14.grow p.h.1).cells.2
                  replace v14 : Hid (VlAt U w14.heap.size Z) := v14
                  replace G14 : Hid (Below WR.heap.size WR U) := G14
                  have hLn := fun x W (h0 : -1000 ≤ x) (h1 : x ≤ 1000) => lnum_any x W h0 h1
                  clear hc1 hc2 hc3 hb12 hb13 hb14 g12 G12 g13 G13 f13 f14 v12 v13 u13 hr1 hr2 hr3 u14 s14 g14 xo xh hcc hBd
                  refine Gq.wp_region_grow (Gq.growS U.heap.size Z) (Gq.growS_of (Nat.le_refl _) (Below.refl _ _).drew) (fun i => match i with | 6 => some (fun _ u W => Gq.Row2 X Y u W) | 7 => some (fun _ u _ => u = .tuple #[.agg #[.int .i64 Z.kind, .int .i64 Z.n], .int .i64 0]) | 11 => some (fun _ u W => Gq.BoxS U.heap.size Z u W) | 12 => some (fun vs _ W => Gq.DoneS U.heap.size Z vs W) | _ => none) ?_ (by kernel_rfl) (by kernel_rfl) ?_
                  · intro i s hs vs v W W' h g
                    dsimp only at hs; split at hs <;> cases hs <;> first | exact h | exact Gq.Row2.keep h g | exact Gq.BoxS.keep h g | exact Gq.DoneS.keep h g
                  refine Gq.wpG_pure rfl rfl rfl rfl (fun KK hK => ?_); go_big_quiet_op; refine hK _ ?_; clear hK KK
                  refine Gq.wpG_pure rfl rfl rfl rfl (fun KK hK => ?_); go_big_quiet_op; refine hK _ ?_; clear hK KK
                  refine Gq.wpG_pure rfl rfl rfl rfl (fun KK hK => ?_); go_big_quiet_op; refine hK _ ?_; clear hK KK
                  refine Gq.wpG_pure rfl rfl rfl rfl (fun KK hK => ?_); go_big_quiet_op; refine hK _ ?_; clear hK KK
                  refine Gq.wpG_pure rfl rfl rfl rfl (fun KK hK => ?_); go_big_quiet_op; refine hK _ ?_; clear hK KK
                  refine Gq.wpG_pure rfl rfl rfl rfl (fun KK hK => ?_); go_big_quiet_op; refine hK _ ?_; clear hK KK
                  refine Gq.wpG_tell _ rfl rfl rfl rfl (fun W hW => ?_) (fun x6 hx6 KK hK => ?_)
                  · exact Gq.tell_run (.slice (some ⟨W.heap.size, 0, none⟩) 2 2) (W.alloc (.cells #[.int .i64 X.kind, .int .i64 X.n, .int .i64 Y.kind, .int .i64 Y.n] 25)) (by go_simp) (Gq.growS_of (Gq.growS_size (Nat.le_refl _) hW.1.gw) ((Below.refl _ _).alloc (Nat.le_refl _) _)) (Gq.row2_new W X Y)
                  go_big_quiet_op; refine hK _ ?_; clear hK KK
                  refine Gq.wpG_call (.tuple #[.agg #[.int .i64 Z.kind, .int .i64 Z.n], .int .i64 0]) rfl rfl rfl (fun W hW => ?_) (fun KK hK => ?_)
                  · refine Gq.tell_fn #[.string ⟨#[43]⟩, x6] rfl (by simp [Act.eval]) Tryz.func25 (by kernel_rfl) (by kernel_rfl) ?_
                    refine (hdo.out W x6 ((hW.2 6 _ rfl (by kernel_rfl)).2 rfl).vls).mono ?_
                    rintro e w' ⟨h1, h2⟩
                    exact ⟨_, h1, Gq.growS_of (Gq.growS_size (Nat.le_refl _) hW.1.gw) h2, rfl⟩
                  go_big_quiet_op; refine hK _ ?_; clear hK KK
                  refine Gq.wpG_pure rfl rfl rfl rfl (fun KK hK => ?_); go_big_quiet_op; refine hK _ ?_; clear hK KK
                  refine Gq.wpG_pure rfl rfl rfl rfl (fun KK hK => ?_); go_big_quiet_op; refine hK _ ?_; clear hK KK
                  refine Gq.wpG_pure rfl rfl rfl rfl (fun KK hK => ?_); go_big_quiet_op; refine hK _ ?_; clear hK KK
                  refine Gq.wpG_tell _ rfl rfl rfl rfl (fun W hW => ?_) (fun x11 hx11 KK hK => ?_)
                  · exact Gq.tell_run (.pointer (some ⟨W.heap.size, 0, none⟩)) (W.alloc (.cells #[.int .i64 0, .int .i64 0] 25)) (by go_simp) (Gq.growS_of (Gq.growS_size (Nat.le_refl _) hW.1.gw) ((Below.refl _ _).alloc (Nat.le_refl _) _)) (Gq.box_new W (Gq.growS_size (Nat.le_refl _) hW.1.gw) Z)
                  go_big_quiet_op; refine hK _ ?_; clear hK KK
                  refine Gq.wpG_tell #[x11, .agg #[.int .i64 Z.kind, .int .i64 Z.n]] rfl rfl rfl (by simp [Op.operands, Act.eval]) (fun W hW => ?_) (fun x12 hx12 KK hK => ?_)
                  · obtain ⟨y, hy, rfl, hv⟩ := (hW.2 11 _ rfl (by kernel_rfl)).2 rfl
                    refine Gq.tell_skip ((W.setCell ⟨y, 0, none⟩ (.int .i64 Z.kind)).setCell ⟨y, 1, none⟩ (.int .i64 Z.n)) ?_ (Gq.store_R hy hv) (Gq.store_done _ hy rfl hv)
                    rcases hv with hv | hv
                    · obtain ⟨v0, v1⟩ := hv.cells
                      obtain ⟨v2, v3⟩ := hv.frozen
                      go_simp
                    · obtain ⟨v0, v1⟩ := hv.cells
                      obtain ⟨v2, v3⟩ := hv.frozen
                      go_simp
                  go_big_quiet_op; refine hK _ ?_; clear hK KK
                  refine Gq.wpG_pure rfl rfl rfl rfl (fun KK hK => ?_); go_big_quiet_op; refine hK _ ?_; clear hK KK
                  refine Gq.wpG_nil (fun W' hW hF => ?_)
                  obtain ⟨bt, hbt, he, hbv⟩ := (hF 12).2 rfl
                  have he := Option.some.inj he
                  subst he
                  have hb2 : Below U.heap.size U W' := hW.gw.1
                  obtain ⟨s0, s1⟩ := hbv.cells
                  obtain ⟨s2, s3⟩ := (VlAt.grow v14.out hb2).cells
                  have hB9 := G14.out.trans (hb2.mono G14.out.size)
                  clear fo fx0 fx1 fy0 fy1 hF hW
                  go_wp2_with (first
                    | (go_at_call 12; refine (hLn 0 _ (by omega) (by omega)).mono ?_; rintro e w' ⟨rfl, rfl⟩))
                  refine ⟨⟨k + 1, by omega, by go_num, hB9⟩, ?_⟩
                  simp [intOf]; omega
                · obtain rfl : k = 2 := by omega
                  have hki : ¬ ((2 : Nat) : Int) < 2 := by omega
                  obtain ⟨x, y, t1, t2, t3⟩ := hpm.out
                  have hr1 : Hid (∀ W, Below WR.heap.size WR W → Calls Tryz.prog 10 #[.string ⟨#[109, 105, 110]⟩, .bool true, .slice a1 n1 c1] W fun e w' => (∃ er, e = .returned (.tuple #[.agg #[.int .i64 1, .int .i64 x], .int .i64 er])) ∧ Below W.heap.size W w') := fun W h => by
                    have := reduce_any ⟨#[109, 105, 110]⟩ true _ A W (Sls.grow hP1.out h) (by rw [← hn1.out]; omega)
                    rw [t1] at this
                    exact this.mono fun e w' ⟨he, hb⟩ => ⟨⟨_, he⟩, hb⟩
                  have hr2 : Hid (∀ W, Below WR.heap.size WR W → Calls Tryz.prog 10 #[.string ⟨#[109, 105, 110]⟩, .bool true, .slice a2 n2 c2] W fun e w' => (∃ er, e = .returned (.tuple #[.agg #[.int .i64 1, .int .i64 y], .int .i64 er])) ∧ Below W.heap.size W w') := fun W h => by
                    have := reduce_any ⟨#[109, 105, 110]⟩ true _ B W (Sls.grow hP2.out h) (by rw [← hn2.out]; omega)
                    rw [t2] at this
                    exact this.mono fun e w' ⟨he, hb⟩ => ⟨⟨_, he⟩, hb⟩
                  obtain ⟨z, hz⟩ : ∃ z, Hid (z = min x y) := ⟨_, rfl⟩
                  have hr3 : Hid (∀ W, Below WR.heap.size WR W → Calls Tryz.prog 10 #[.string ⟨#[109, 105, 110]⟩, .bool true, .slice a6 n3 c6] W fun e w' => (∃ er, e = .returned (.tuple #[.agg #[.int .i64 1, .int .i64 z], .int .i64 er])) ∧ Below W.heap.size W w') := fun W h => by
                    have := reduce_any ⟨#[109, 105, 110]⟩ true _ (A ++ B) W (Sls.grow hP3.out h) (by rw [← hn3.out]; omega)
                    rw [t3, ← hz.out] at this
                    exact this.mono fun e w' ⟨he, hb⟩ => ⟨⟨_, he⟩, hb⟩
                  clear t1 t2 t3
                  have hBd2 := hBd
                  have hc1 := hr1.out wr hBd
                  have hmin : (z == min x y) = true := by rw [hz.out]; simp
                  go_wp2_with (first
                    | (go_at_call 10; (with_reducible refine hc1.mono ?_); rintro e w12 ⟨⟨er1, rfl⟩, hb12⟩; have g12 := hb12.alloc hb12.size (.cells #[.int .i64 1, .int .i64 x] 25); have G12 := hBd.trans (g12.mono hBd.size); have hc2 := hr2.out _ G12; have v12 : VlAt (w12.alloc (.cells #[.int .i64 1, .int .i64 x] 25)) w12.heap.size ⟨1, x⟩ := vlNew w12 ⟨1, x⟩)
                    | (go_at_call 10; (with_reducible refine hc2.mono ?_); rintro e w13 ⟨⟨er2, rfl⟩, hb13⟩; have f13 := hb13.alloc hb13.size (.cells #[.int .i64 1, .int .i64 y] 25); have G13 := G12.trans (f13.mono G12.size); have hc3 := hr3.out _ G13; have v13 : VlAt (w13.alloc (.cells #[.int .i64 1, .int .i64 y] 25)) w13.heap.size ⟨1, y⟩ := vlNew w13 ⟨1, y⟩; have u13 := v12.grow f13)
                    | (go_at_call 10; (with_reducible refine hc3.mono ?_); rintro e w14 ⟨⟨er3, rfl⟩, hb14⟩; have f14 := hb14.alloc hb14.size (.cells #[.int .i64 1, .int .i64 z] 25); have G14 := G13.trans (f14.mono G13.size); have v14 : VlAt (w14.alloc (.cells #[.int .i64 1, .int .i64 z] 25)) w14.heap.size ⟨1, z⟩ := vlNew w14 ⟨1, z⟩; obtain ⟨y0, y1⟩ := (v13.grow f14).cells; obtain ⟨x0, x1⟩ := (u13.grow f14).cells; obtain ⟨z0, z1⟩ := v14.cells; have hBx := hBR.out.trans (G14.mono hBR.out.size))
                    | (go_at_call 9; refine (hlive _).mono ?_; rintro e w15 ⟨rfl, hb15⟩))
                  all_goals
                    go_ret
                    exact ⟨rfl, hBx.trans (hb15.mono hBx.size)⟩
/-! ### THE ROW's STEP -/
set_option maxRecDepth 100000 in
theorem lifted (os : Os) (started : os.Started) (H : Type) (enc : TypeId × Value → H) :
    ReturnsInHanded {} Tryz.checked os 7 .any (Rows.seriesPartsSpec.pre6 enc Tryz.prog Tryz.f7 Rows.seriesPartsRow.domain false) (Rows.seriesPartsSpec.post enc Tryz.prog Tryz.f7 false true false false) := by
  refine returnsInHanded_of_change_sized (C := Tryz.checked) own started (by kernel_rfl) Tryz.func7
    (ChangeSpec.witness6 (enc := enc) (C := Tryz.checked) false ⟨#[], #[.slice none 0 0, .slice none 0 0], []⟩ 8 (by kernel_rfl) (by kernel_rfl) (by kernel_rfl) (by kernel_rfl)) ?_
  intro W base args ds gs before hval0 hW hcnd hsz0 _
  have hsz : (DataW.weightsEach Tryz.prog (Tryz.f7.params.toList ++ Rows.seriesPartsSpec.plain.varTypes Tryz.prog) (ds ++ gs)).all (· ≤ reachBytes) = true := hsz0
  have hval : ∀ (j : Nat) t v, Tryz.f7.params[j]? = some t → args[j]? = some v → Value.okWide Tryz.prog W .any base t v := hval0
  have hW' := hW
  obtain ⟨p, q, hA0, hV, rfl, hfz, hnd⟩ := hW
  have hA : DataW.TrodAll enc Tryz.prog W 0 (fun _ => true) true Tryz.f7.params.toList args.toList ds p := hA0
  rw [Tryz.params7] at hA hval hsz
  obtain ⟨v0, vs0, d0, ds0, p0, q0, hargs, rfl, rfl, h0, r0⟩ := trodAll_cons hA
  obtain ⟨v1, vs1, d1, ds1, p1, q1, rfl, rfl, rfl, h1, r1⟩ := trodAll_cons r0
  obtain ⟨rfl, rfl, rfl⟩ := trodAll_nil r1
  obtain rfl : args = #[v0, v1] := by cases args; simp_all
  obtain ⟨rfl, rfl⟩ := trodVars_none hV
  have k0 := h0
  have lt0 : ∀ x ∈ p0, x.block < W.heap.size := by obtain ⟨m, hm⟩ := k0; exact DataW.trod_lt m _ _ _ hm
  obtain ⟨a0, n0, c0, rfl⟩ := okWide_slice Tryz.underlying22 (hval 0 22 v0 rfl rfl)
  obtain ⟨l0, hP0, hR0, hL0⟩ : ∃ l, Pns W (.slice a0 n0 c0) l ∧ (True) ∧ l.length ≤ 5864062014634 := by
    obtain ⟨fuel, hf⟩ := h0
    refine pns_of_trod hf (fun q hq => ?_)
    have := List.all_eq_true.1 hsz _ (DataW.weights_mem_each (j := 0) (t := 22) rfl rfl q hq)
    simpa using this
  have k1 := h1
  have lt1 : ∀ x ∈ p1, x.block < W.heap.size := by obtain ⟨m, hm⟩ := k1; exact DataW.trod_lt m _ _ _ hm
  obtain ⟨a1, n1, c1, rfl⟩ := okWide_slice Tryz.underlying22 (hval 1 22 v1 rfl rfl)
  obtain ⟨l1, hP1, hR1, hL1⟩ : ∃ l, Pns W (.slice a1 n1 c1) l ∧ (True) ∧ l.length ≤ 5864062014634 := by
    obtain ⟨fuel, hf⟩ := h1
    refine pns_of_trod hf (fun q hq => ?_)
    have := List.all_eq_true.1 hsz _ (DataW.weights_mem_each (j := 1) (t := 22) rfl rfl q hq)
    simpa using this
  clear hA0 hval0
  refine (walk a0 n0 c0 l0 a1 n1 c1 l1 W hP0 hR0 hL0 hP1 hR1 hL1).mono fun e W' ⟨he, bel⟩ => ?_
  subst he
  exact ⟨_, rfl, _, _, _, [], _, [], hW', trodAll_mk1 (shut_bool Tryz.underlying4 _), (trodAll_cons_mk (Below.trod laidOut (by kernel_rfl) (of_decide_eq_true (by kernel_rfl)) k0 bel lt0) (trodAll_cons_mk (Below.trod laidOut (by kernel_rfl) (of_decide_eq_true (by kernel_rfl)) k1 bel lt1) trodAll_mk0)), rfl, bel.frame _, fun h => by cases h⟩
theorem over : Rows.seriesPartsRow.holds Tryz.pinned (OpenSpec.ofChange Rows.seriesPartsSpec) :=
  OpenClaim.holds_of_wide 7 Tryz.f7 rfl rfl rfl rfl rfl rfl rfl ⟨rfl, rfl, rfl, rfl, rfl⟩ rfl rfl rfl rfl rfl (by kernel_rfl) Tryz.func7 (by kernel_rfl)
    (of_decide_eq_true (by kernel_rfl)) (by unfold Func.isWrapper; first | (rw [if_pos (by decide +kernel)]; kernel_rfl) | (rw [if_neg (by decide +kernel)]; exact ⟨rfl, rfl⟩))
    (fun os started H enc _ => lifted os started H enc)
end Go.Proofs.YtejdmielhaldaaaGreat.seriesParts
namespace Go.Proofs.YtejdmielhaldaaaGreat
/-- The statement. -/
theorem seriesParts_holds : Rows.SeriesPartsSaid := seriesParts.over
#print axioms seriesParts_holds
end Go.Proofs.YtejdmielhaldaaaGreat
