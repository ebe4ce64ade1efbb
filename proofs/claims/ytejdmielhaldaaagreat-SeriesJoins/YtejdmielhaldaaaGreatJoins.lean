/-
  SeriesJoins: every two lists of series, and every operation: Sort, Map, Join and Scalar are what the document has them be. No condition.
-/
import Derived.Test.YtejdmielhaldaaaGreatRows
import Derived.WalkKit
import Derived.ProofKit
import Derived.OpenShut
import Derived.ShutString
import Derived.ChangeOld
import Derived.Below
import Derived.SizedLaws
import Derived.Test.YtejdmielhaldaaaGreatUl
import Derived.Test.YtejdmielhaldaaaGreatGr
namespace Go.Proofs.YtejdmielhaldaaaGreat.seriesJoins
open Go.ChangeShapes Go.WideShapes Go.ChangeAt Go.RowKit
open Go.ChangeMaps (open_string shut_string)
set_option linter.unusedVariables false
theorem own : ownKnob Tryz.prog.godebug = none := by kernel_rfl
theorem laidOut : laidOutB Tryz.prog = true := by kernel_rfl
open Go.Deep in
set_option maxRecDepth 100000 in
theorem vl_arg {H : Type} {enc : TypeId × Value → H} {W : World} {v : Value} {b0 : Nat} {d : DataW H} {ps : List MemPlace} (hval : Value.okWide Tryz.prog W .any b0 25 v) (h : DataW.Trod enc Tryz.prog W 0 (fun _ => true) true 25 v d ps) : ∃ u : Vl, v = vlV u := by
  obtain ⟨cs, rfl, hs⟩ := Go.WideShapes.okWide_struct Tryz.underlying25 hval
  obtain ⟨fuel, hf⟩ := h
  have k25 : Tryz.prog.cellsOf 25 = 2 := by kernel_rfl
  rw [k25] at hs
  obtain ⟨u, hcs⟩ := vl_cells (by simpa [Value.cells] using hs) hf
  refine ⟨u, ?_⟩
  simp only [Value.cells] at hcs
  unfold vlV
  congr 1
  apply Array.toList_inj.1
  rw [hcs]
def OneS (xl : List Lb) (Z : Vl) (u : Value) (W : World) : Prop := ∃ a c, u = .slice a 1 c ∧ IsSer W a 1 c [⟨xl, Z⟩]
theorem OneS.keep {xl : List Lb} {Z : Vl} {u : Value} {W W' : World} (h : OneS xl Z u W) (g : Below W.heap.size W W') : OneS xl Z u W' := by
  obtain ⟨b, c, e, h⟩ := h
  exact ⟨b, c, e, IsSer.grow h g⟩
set_option maxRecDepth 100000 in
set_option maxHeartbeats 16000000 in
/-- THE WALK. -/
theorem walk (op : ByteArray) (a : Option Addr) (n c : Nat) (L : List Se) (a2 : Option Addr) (n2 c2 : Nat) (L2 : List Se) (v : Vl) (w : World) (hs : op.size ≤ reachBytes) (hP : Srs w (.slice a n c) L) (hi : ∀ p ∈ L, SeIn w p) (hl : L.length ≤ 4398046511104) (hP2 : Srs w (.slice a2 n2 c2) L2) (hi2 : ∀ p ∈ L2, SeIn w p) (hl2 : L2.length ≤ 4398046511104) :
    Calls Tryz.prog 4 #[.string op, .slice a n c, .slice a2 n2 c2, vlV v] w fun e w' => e = .returned (.bool true) ∧ Below w.heap.size w w' := by
  have hlive := live_ok
  have hO := bW0 w (.cells #[.int .i64 v.kind, .int .i64 v.n] 25)
  have hvb : VlAt (w.alloc (.cells #[.int .i64 v.kind, .int .i64 v.n] 25)) w.heap.size v := vlNew w v
  have hsm := small_ser _ L _ (Sls.grow hP hO) (fun x hx => Sls.grow (hi x hx).1 hO) (fun x hx => (hi x hx).2) hl
  have hsm2 : ∀ W, Below (w.alloc (.cells #[.int .i64 v.kind, .int .i64 v.n] 25)).heap.size (w.alloc (.cells #[.int .i64 v.kind, .int .i64 v.n] 25)) W → Calls Tryz.prog 13 #[.slice a2 n2 c2] W fun e w' => SmallQ L2.length W e w' := fun W h => small_ser _ L2 _ ((Sls.grow hP2 hO).grow h) (fun x hx => (Sls.grow (hi2 x hx).1 hO).grow h) (fun x hx => (hi2 x hx).2) hl2
  obtain ⟨hS, hR⟩ := isSer_in hP hi
  obtain ⟨hS2, hR2⟩ := isSer_in hP2 hi2
  have hn : L.length = n := by rw [hS.len, List.length_map]
  have hn2 : L2.length = n2 := by rw [hS2.len, List.length_map]
  rw [hn] at hsm
  rw [hn2] at hsm2
  generalize L.map serOf = F at *
  generalize L2.map serOf = G at *
  replace hS := hS.grow hO
  replace hS2 := hS2.grow hO
  clear hP hi hl hn hP2 hi2 hl2 hn2
  obtain ⟨XS, E1, hq1⟩ := sortQ_ex F
  obtain ⟨XM, E2, hq2⟩ := mapT_ex op F
  obtain ⟨XJ, E3, hq3⟩ := joinT_ex op F G
  replace hq1 : Hid _ := hq1
  replace hq2 : Hid (MapT op F XM E2) := hq2
  replace hq3 : Hid (JoinT op F G XJ E3) := hq3
  unfold reachBytes at hs
  unfold vlV
  have hE := fun x W => enum_any x W
  generalize hW0 : w.alloc (.cells #[.int .i64 v.kind, .int .i64 v.n] 25) = W0 at *
  go_enter Tryz.func4, Tryz.ntmps4
  go_wp2_with (first
    | (go_at_call 13; (with_reducible refine hsm.mono ?_); rintro e w1 ⟨B, rfl, hB60, hb1⟩; have hB1 := hO.trans (hb1.mono hO.size); have hz2 := hsm2 w1 hb1; cases B)
    | (go_at_call 13; (with_reducible refine hz2.mono ?_); rintro e w2 ⟨B2, rfl, hB61, hb2⟩; have hb12 := hb1.trans (hb2.mono hb1.size); have hB2 := hO.trans (hb12.mono hO.size); replace hB1 := hB2; cases B2)
    | (go_at_call 9; refine (hlive _).mono ?_; rintro e w3 ⟨rfl, hb3⟩))
  · go_ret
    exact ⟨rfl, hB1.trans (hb3.mono hB1.size)⟩
  · go_ret
    exact ⟨rfl, hB1.trans (hb3.mono hB1.size)⟩
  · go_ret
    exact ⟨rfl, hB1.trans (hb3.mono hB1.size)⟩
  · have hn60 : n ≤ 60 := hB60 trivial
    have hm60 : n2 ≤ 60 := hB61 trivial
    have hA2 := hS.grow hb12
    have hC2 := hS2.grow hb12
    have hv2 := hvb.grow hb12
    have ho2 := ownF hA2 hR (by omega)
    clear hsm hsm2 hz2 hB60 hB61
    go_wp2_with (first
      | (go_at_call 15; (with_reducible refine ho2.mono ?_); rintro e w3 ⟨a3, c3, rfl, h3⟩; have f3 := h3.out.2; have g14 := sortG h3.out.1 hR (by omega) hq1.out; clear ho2)
      | (go_at_call 14; (with_reducible refine g14.mono ?_); rintro e w4 ⟨a4, n4, c4, rfl, h4⟩; have f4 := f3.trans (h4.out.2.mono f3.size); have g16 := rsortG (hA2.grow f4) hR (by omega) hq1.out; clear g14)
      | (go_at_call 16; (with_reducible refine g16.mono ?_); rintro e w5 ⟨a5, n5, c5, rfl, h5⟩; have f5 := f4.trans (h5.out.2.mono f4.size); have o5 := ownF (hA2.grow f5) hR (by omega); clear g16)
      | (go_at_call 15; (with_reducible refine o5.mono ?_); rintro e w6 ⟨a6, c6, rfl, h6⟩; have f6 := f5.trans (h6.out.2.mono f5.size); have g17 := mapG h6.out.1 hR (by omega) hq2.out; clear o5)
      | (go_at_call 17; (with_reducible refine g17.mono ?_); rintro e w7 ⟨a7, n7, c7, rfl, h7⟩; have f7 := f6.trans (h7.out.2.mono f6.size); have g18 := rmapG (hA2.grow f7) hR (by omega) hq2.out; clear g17)
      | (go_at_call 18; (with_reducible refine g18.mono ?_); rintro e w8 ⟨a8, n8, c8, rfl, h8⟩; have f8 := f7.trans (h8.out.2.mono f7.size); have o8 := ownF (hA2.grow f8) hR (by omega); clear g18)
      | (go_at_call 15; (with_reducible refine o8.mono ?_); rintro e w9 ⟨a9, c9, rfl, h9⟩; have f9 := f8.trans (h9.out.2.mono f8.size); have o9 := ownF (hC2.grow f9) hR2 (by omega); clear o8)
      | (go_at_call 15; (with_reducible refine o9.mono ?_); rintro e w10 ⟨a10, c10, rfl, h10⟩; have f10 := f9.trans (h10.out.2.mono f9.size); have g19 := joinG (h9.out.1.grow h10.out.2) h10.out.1 hR hR2 (by omega) (by omega) hq3.out; clear o9)
      | (go_at_call 19; (with_reducible refine g19.mono ?_); rintro e w11 ⟨a11, n11, c11, rfl, h11⟩; have f11 := f10.trans (h11.out.2.mono f10.size); have g20 := rjoinG (hA2.grow f11) (hC2.grow f11) hR hR2 (by omega) (by omega) hq3.out; clear g19)
      | (go_at_call 20; (with_reducible refine g20.mono ?_); rintro e w12 ⟨a12, n12, c12, rfl, h12⟩; have f12 := f11.trans (h12.out.2.mono f11.size); clear g20))
    have g5 := h5.out.2
    have g6 := g5.trans (h6.out.2.mono g5.size)
    have g7 := g6.trans (h7.out.2.mono g6.size)
    have g8 := g7.trans (h8.out.2.mono g7.size)
    have g9 := g8.trans (h9.out.2.mono g8.size)
    have g10 := g9.trans (h10.out.2.mono g9.size)
    have g11 := g10.trans (h11.out.2.mono g10.size)
    have g12 := g11.trans (h12.out.2.mono g11.size)
    have i6 := h6.out.2
    have i7 := i6.trans (h7.out.2.mono i6.size)
    have i8 := i7.trans (h8.out.2.mono i7.size)
    have i9 := i8.trans (h9.out.2.mono i8.size)
    have i10 := i9.trans (h10.out.2.mono i9.size)
    have i11 := i10.trans (h11.out.2.mono i10.size)
    have i12 := i11.trans (h12.out.2.mono i11.size)
    have j8 := h8.out.2
    have j9 := j8.trans (h9.out.2.mono j8.size)
    have j10 := j9.trans (h10.out.2.mono j9.size)
    have j11 := j10.trans (h11.out.2.mono j10.size)
    have j12 := j11.trans (h12.out.2.mono j11.size)
    have l9 := h9.out.2
    have l10 := l9.trans (h10.out.2.mono l9.size)
    have l11 := l10.trans (h11.out.2.mono l10.size)
    have l12 := l11.trans (h12.out.2.mono l11.size)
    have m12 := h12.out.2
    have s4 : Hid (IsSer w12 a4 n4 c4 XS) := h4.out.1.grow g12
    have s5 : Hid (IsSer w12 a5 n5 c5 XS) := h5.out.1.grow i12
    have s7 : Hid (IsSer w12 a7 n7 c7 XM) := h7.out.1.grow j12
    have s8 : Hid (IsSer w12 a8 n8 c8 XM) := h8.out.1.grow l12
    have s11 : Hid (IsSer w12 a11 n11 c11 XJ) := h11.out.1.grow m12
    have s12 : Hid (IsSer w12 a12 n12 c12 XJ) := h12.out.1
    have F1 : Hid (Few XS) := Few.sort hq1.out
    have F2 : Hid (Few XM) := Few.map hq2.out
    have F3 : Hid (Few XJ) := Few.join hq3.out
    have hv12 := hv2.grow f12
    have hB12 : Hid (Below w.heap.size w w12) := (hO.trans (hb12.mono hO.size)).trans (f12.mono (hO.trans (hb12.mono hO.size)).size)
    have v0 : ∀ p : Bel w12, p.W.cell? ⟨w.heap.size, 0, none⟩ = some (.int .i64 v.kind) := fun p => p.cell hv12.cells.1
    have v1 : ∀ p : Bel w12, p.W.cell? ⟨w.heap.size, 1, none⟩ = some (.int .i64 v.n) := fun p => p.cell hv12.cells.2
    replace hE : Hid _ := hE
    replace hlive : Hid _ := hlive
    clear h3 h4 h5 h6 h7 h8 h9 h10 h11 h12 f3 f4 f5 f6 f7 f8 f9 f10 f11 f12 g5 g6 g7 g8 g9 g10 g11 g12 i6 i7 i8 i9 i10 i11 i12 j8 j9 j10 j11 j12 l9 l10 l11 l12 m12 hA2 hC2 hv2 hv12 hS hS2 hvb hR hR2 hb1 hb2 hb12 hB1 hB2 hO hq1 hq2 hq3
    refine wp_region_grow (w := w12) (fun i => match i with | 2 => some (fun u _ => u = .bool true) | 5 => some (fun u _ => u = .int .i64 E1) | 12 => some (fun u _ => u = .bool true) | 16 => some (fun u _ => u = .int .i64 E2) | 23 => some (fun u _ => u = .bool true) | 27 => some (fun u _ => u = .int .i64 E3) | 36 => some (fun u _ => u = .bool true) | 39 => some (fun u _ => u = .bool true) | 33 => some (fun u W => OneS [] v u W) | 35 => some (fun u W => OneS [] v u W) | _ => none) ?_ (by kernel_rfl) (by kernel_rfl) ?_
    · intro i s hs v W W' h g
      dsimp only at hs; split at hs <;> cases hs <;> first | exact OneS.keep h g | exact h
    refine wpG_pure rfl rfl rfl rfl (fun KK hK => ?_); go_big_quiet_op; refine hK _ ?_; clear hK KK
    refine wpG_pure rfl rfl rfl rfl (fun KK hK => ?_); go_big_quiet_op; refine hK _ ?_; clear hK KK
    refine wpG_call (.bool true) rfl rfl rfl (fun W hW => ?_) (fun KK hK => ?_)
    · refine tell_fn #[.slice a4 n4 c4, .slice a5 n5 c5] rfl (by simp [Act.eval]) Tryz.func21 (by kernel_rfl) (by kernel_rfl) ?_
      refine (sameG (IsSer.grow s4.out hW.1.gw) (IsSer.grow s5.out hW.1.gw) F1.out).mono ?_
      rintro e w' ⟨h1, h2⟩
      exact ⟨_, h1, h2, rfl⟩
    go_big_quiet_op; refine hK _ ?_; clear hK KK
    refine wpG_pure rfl rfl rfl rfl (fun KK hK => ?_); go_big_quiet_op; refine hK _ ?_; clear hK KK
    refine wpG_pure rfl rfl rfl rfl (fun KK hK => ?_); go_big_quiet_op; refine hK _ ?_; clear hK KK
    refine wpG_call (.int .i64 E1) rfl rfl rfl (fun W hW => ?_) (fun KK hK => ?_)
    · refine tell_fn #[.int .i64 E1] rfl (by simp [Act.eval]) Tryz.func12 (by kernel_rfl) (by kernel_rfl) ?_
      refine (hE.out E1 W).mono ?_
      rintro e w' ⟨h1, h2⟩
      exact ⟨_, h1, h2, rfl⟩
    go_big_quiet_op; refine hK _ ?_; clear hK KK
    refine wpG_pure rfl rfl rfl rfl (fun KK hK => ?_); go_big_quiet_op; refine hK _ ?_; clear hK KK
    refine wpG_pure rfl rfl rfl rfl (fun KK hK => ?_); go_big_quiet_op; refine hK _ ?_; clear hK KK
    refine wpG_pure rfl rfl rfl rfl (fun KK hK => ?_); go_big_quiet_op; refine hK _ ?_; clear hK KK
    refine wpG_pure rfl rfl rfl rfl (fun KK hK => ?_); go_big_quiet_op; refine hK _ ?_; clear hK KK
    refine wpG_pure rfl rfl rfl rfl (fun KK hK => ?_); go_big_quiet_op; refine hK _ ?_; clear hK KK
    refine wpG_pure rfl rfl rfl rfl (fun KK hK => ?_); go_big_quiet_op; refine hK _ ?_; clear hK KK
    refine wpG_call (.bool true) rfl rfl rfl (fun W hW => ?_) (fun KK hK => ?_)
    · refine tell_fn #[.slice a7 n7 c7, .slice a8 n8 c8] rfl (by simp [Act.eval]) Tryz.func21 (by kernel_rfl) (by kernel_rfl) ?_
      refine (sameG (IsSer.grow s7.out hW.1.gw) (IsSer.grow s8.out hW.1.gw) F2.out).mono ?_
      rintro e w' ⟨h1, h2⟩
      exact ⟨_, h1, h2, rfl⟩
    go_big_quiet_op; refine hK _ ?_; clear hK KK
    refine wpG_pure rfl rfl rfl rfl (fun KK hK => ?_); go_big_quiet_op; refine hK _ ?_; clear hK KK
    refine wpG_pure rfl rfl rfl rfl (fun KK hK => ?_); go_big_quiet_op; refine hK _ ?_; clear hK KK
    refine wpG_pure rfl rfl rfl rfl (fun KK hK => ?_); go_big_quiet_op; refine hK _ ?_; clear hK KK
    refine wpG_call (.int .i64 E2) rfl rfl rfl (fun W hW => ?_) (fun KK hK => ?_)
    · refine tell_fn #[.int .i64 E2] rfl (by simp [Act.eval]) Tryz.func12 (by kernel_rfl) (by kernel_rfl) ?_
      refine (hE.out E2 W).mono ?_
      rintro e w' ⟨h1, h2⟩
      exact ⟨_, h1, h2, rfl⟩
    go_big_quiet_op; refine hK _ ?_; clear hK KK
    refine wpG_pure rfl rfl rfl rfl (fun KK hK => ?_); go_big_quiet_op; refine hK _ ?_; clear hK KK
    refine wpG_pure rfl rfl rfl rfl (fun KK hK => ?_); go_big_quiet_op; refine hK _ ?_; clear hK KK
    refine wpG_pure rfl rfl rfl rfl (fun KK hK => ?_); go_big_quiet_op; refine hK _ ?_; clear hK KK
    refine wpG_pure rfl rfl rfl rfl (fun KK hK => ?_); go_big_quiet_op; refine hK _ ?_; clear hK KK
    refine wpG_pure rfl rfl rfl rfl (fun KK hK => ?_); go_big_quiet_op; refine hK _ ?_; clear hK KK
    refine wpG_pure rfl rfl rfl rfl (fun KK hK => ?_); go_big_quiet_op; refine hK _ ?_; clear hK KK
    refine wpG_call (.bool true) rfl rfl rfl (fun W hW => ?_) (fun KK hK => ?_)
    · refine tell_fn #[.slice a11 n11 c11, .slice a12 n12 c12] rfl (by simp [Act.eval]) Tryz.func21 (by kernel_rfl) (by kernel_rfl) ?_
      refine (sameG (IsSer.grow s11.out hW.1.gw) (IsSer.grow s12.out hW.1.gw) F3.out).mono ?_
      rintro e w' ⟨h1, h2⟩
      exact ⟨_, h1, h2, rfl⟩
    go_big_quiet_op; refine hK _ ?_; clear hK KK
    refine wpG_pure rfl rfl rfl rfl (fun KK hK => ?_); go_big_quiet_op; refine hK _ ?_; clear hK KK
    refine wpG_pure rfl rfl rfl rfl (fun KK hK => ?_); go_big_quiet_op; refine hK _ ?_; clear hK KK
    refine wpG_pure rfl rfl rfl rfl (fun KK hK => ?_); go_big_quiet_op; refine hK _ ?_; clear hK KK
    refine wpG_call (.int .i64 E3) rfl rfl rfl (fun W hW => ?_) (fun KK hK => ?_)
    · refine tell_fn #[.int .i64 E3] rfl (by simp [Act.eval]) Tryz.func12 (by kernel_rfl) (by kernel_rfl) ?_
      refine (hE.out E3 W).mono ?_
      rintro e w' ⟨h1, h2⟩
      exact ⟨_, h1, h2, rfl⟩
    go_big_quiet_op; refine hK _ ?_; clear hK KK
    refine wpG_pure rfl rfl rfl rfl (fun KK hK => ?_); go_big_quiet_op; refine hK _ ?_; clear hK KK
    refine wpG_pure rfl rfl rfl rfl (fun KK hK => ?_); go_big_quiet_op; refine hK _ ?_; clear hK KK
    refine wpG_pure rfl rfl rfl rfl (fun KK hK => ?_); go_big_quiet_op; refine hK _ ?_; clear hK KK
    refine wpG_pure rfl rfl rfl rfl (fun KK hK => ?_); go_big_quiet_op; refine hK _ ?_; clear hK KK
    refine wpG_pure rfl rfl rfl rfl (fun KK hK => ?_); go_big_quiet_op; refine hK _ ?_; clear hK KK
    refine wpG_tell rfl rfl rfl (fun W hW => ?_) (fun x33 hx33 KK hK => ?_)
    · refine tell_fn #[.agg #[.int .i64 v.kind, .int .i64 v.n]] rfl (by simp [Act.eval]) Tryz.func22 (by kernel_rfl) (by kernel_rfl) ?_
      refine (scalarG v W).mono ?_
      rintro e w' ⟨a', c', h1, h2⟩
      exact ⟨_, h1, h2.out.2, a', c', rfl, h2.out.1⟩
    go_big_quiet_op; refine hK _ ?_; clear hK KK
    refine wpG_pure rfl rfl rfl rfl (fun KK hK => ?_); go_big_quiet_op; refine hK _ ?_; clear hK KK
    refine wpG_tell rfl rfl rfl (fun W hW => ?_) (fun x35 hx35 KK hK => ?_)
    · refine tell_fn #[.agg #[.int .i64 v.kind, .int .i64 v.n]] rfl (by simp [Act.eval]) Tryz.func23 (by kernel_rfl) (by kernel_rfl) ?_
      refine (rscalarG v W).mono ?_
      rintro e w' ⟨a', c', h1, h2⟩
      exact ⟨_, h1, h2.out.2, a', c', rfl, h2.out.1⟩
    go_big_quiet_op; refine hK _ ?_; clear hK KK
    refine wpG_call (.bool true) rfl rfl rfl (fun W hW => ?_) (fun KK hK => ?_)
    · obtain ⟨ga, gc, hge, hI⟩ := (hW.2 33 _ rfl (by kernel_rfl)).1.2 rfl
      obtain ⟨ha, hc, hhe, hJ⟩ := (hW.2 35 _ rfl (by kernel_rfl)).2 rfl
      refine tell_fn #[x33, x35] rfl (by simp [Act.eval]) Tryz.func21 (by kernel_rfl) (by kernel_rfl) ?_
      rw [hge, hhe]
      refine (sameG hI hJ (Few.scal v)).mono ?_
      rintro e w' ⟨h1, h2⟩
      exact ⟨_, h1, h2, rfl⟩
    go_big_quiet_op; refine hK _ ?_; clear hK KK
    refine wpG_pure rfl rfl rfl rfl (fun KK hK => ?_); go_big_quiet_op; refine hK _ ?_; clear hK KK
    refine wpG_pure rfl rfl rfl rfl (fun KK hK => ?_); go_big_quiet_op; refine hK _ ?_; clear hK KK
    refine wpG_call (.bool true) rfl rfl rfl (fun W hW => ?_) (fun KK hK => ?_)
    · refine tell_fn #[] rfl (by simp) Tryz.func9 (by kernel_rfl) (by kernel_rfl) ?_
      refine (hlive.out W).mono ?_
      rintro e w' ⟨h1, h2⟩
      exact ⟨_, h1, h2, rfl⟩
    go_big_quiet_op; refine hK _ ?_; clear hK KK
    refine wpG_pure rfl rfl rfl rfl (fun KK hK => ?_); go_big_quiet_op; refine hK _ ?_; clear hK KK
    refine wpG_pure rfl rfl rfl rfl (fun KK hK => ?_); go_big_quiet_op; refine hK _ ?_; clear hK KK
    refine wpG_nil (fun W' hW hF => ?_)
    have hBe := hB12.out.trans (hW.gw.mono hB12.out.size)
    go_wp2
    go_ret
    exact ⟨rfl, hBe⟩
/-! ### THE ROW's STEP -/
set_option maxRecDepth 100000 in
theorem lifted (os : Os) (started : os.Started) (H : Type) (enc : TypeId × Value → H) :
    ReturnsInHanded {} Tryz.checked os 4 .any (Rows.seriesJoinsSpec.pre6 enc Tryz.prog Tryz.f4 Rows.seriesJoinsRow.domain false) (Rows.seriesJoinsSpec.post enc Tryz.prog Tryz.f4 false true false false) := by
  refine returnsInHanded_of_change_sized (C := Tryz.checked) own started (by kernel_rfl) Tryz.func4
    (ChangeSpec.witness6 (enc := enc) (C := Tryz.checked) false ⟨#[], #[.string ⟨#[]⟩, .slice none 0 0, .slice none 0 0, .agg #[.int .i64 0, .int .i64 0]], []⟩ 8 (by kernel_rfl) (by kernel_rfl) (by kernel_rfl) (by kernel_rfl)) ?_
  intro W base args ds gs before hval0 hW hcnd hsz0 _
  have hsz : (DataW.weightsEach Tryz.prog (Tryz.f4.params.toList ++ Rows.seriesJoinsSpec.plain.varTypes Tryz.prog) (ds ++ gs)).all (· ≤ reachBytes) = true := hsz0
  have hval : ∀ (j : Nat) t v, Tryz.f4.params[j]? = some t → args[j]? = some v → Value.okWide Tryz.prog W .any base t v := hval0
  have hW' := hW
  obtain ⟨p, q, hA0, hV, rfl, hfz, hnd⟩ := hW
  have hA : DataW.TrodAll enc Tryz.prog W 0 (fun _ => true) true Tryz.f4.params.toList args.toList ds p := hA0
  rw [Tryz.params4] at hA hval hsz
  obtain ⟨v0, vs0, d0, ds0, p0, q0, hargs, rfl, rfl, h0, r0⟩ := trodAll_cons hA
  obtain ⟨v1, vs1, d1, ds1, p1, q1, rfl, rfl, rfl, h1, r1⟩ := trodAll_cons r0
  obtain ⟨v2, vs2, d2, ds2, p2, q2, rfl, rfl, rfl, h2, r2⟩ := trodAll_cons r1
  obtain ⟨v3, vs3, d3, ds3, p3, q3, rfl, rfl, rfl, h3, r3⟩ := trodAll_cons r2
  obtain ⟨rfl, rfl, rfl⟩ := trodAll_nil r3
  obtain rfl : args = #[v0, v1, v2, v3] := by cases args; simp_all
  obtain ⟨rfl, rfl⟩ := trodVars_none hV
  have k0 := h0
  have lt0 : ∀ x ∈ p0, x.block < W.heap.size := by obtain ⟨m, hm⟩ := k0; exact DataW.trod_lt m _ _ _ hm
  obtain ⟨s0, e0, hS0⟩ : ∃ s, v0 = .string s ∧ s.size ≤ reachBytes := by
    obtain ⟨fuel, hf⟩ := h0
    obtain ⟨x0, rfl, rfl, rfl, _⟩ := open_string Tryz.underlying9 (hval 0 9 v0 rfl rfl) k0
    refine str_of_trod hf (fun q hq => ?_)
    have := List.all_eq_true.1 hsz _ (DataW.weights_mem_each (j := 0) (t := 9) rfl rfl q hq)
    simpa using this
  subst e0
  have k1 := h1
  have lt1 : ∀ x ∈ p1, x.block < W.heap.size := by obtain ⟨m, hm⟩ := k1; exact DataW.trod_lt m _ _ _ hm
  obtain ⟨a1, n1, c1, rfl⟩ := okWide_slice Tryz.underlying33 (hval 1 33 v1 rfl rfl)
  obtain ⟨l1, hP1, hR1, hL1⟩ : ∃ l, Srs W (.slice a1 n1 c1) l ∧ (∀ p ∈ l, SeIn W p) ∧ l.length ≤ 4398046511104 := by
    obtain ⟨fuel, hf⟩ := h1
    refine srs_of_trod hf (fun q hq => ?_)
    have := List.all_eq_true.1 hsz _ (DataW.weights_mem_each (j := 1) (t := 33) rfl rfl q hq)
    simpa using this
  have k2 := h2
  have lt2 : ∀ x ∈ p2, x.block < W.heap.size := by obtain ⟨m, hm⟩ := k2; exact DataW.trod_lt m _ _ _ hm
  obtain ⟨a2, n2, c2, rfl⟩ := okWide_slice Tryz.underlying33 (hval 2 33 v2 rfl rfl)
  obtain ⟨l2, hP2, hR2, hL2⟩ : ∃ l, Srs W (.slice a2 n2 c2) l ∧ (∀ p ∈ l, SeIn W p) ∧ l.length ≤ 4398046511104 := by
    obtain ⟨fuel, hf⟩ := h2
    refine srs_of_trod hf (fun q hq => ?_)
    have := List.all_eq_true.1 hsz _ (DataW.weights_mem_each (j := 2) (t := 33) rfl rfl q hq)
    simpa using this
  have k3 := h3
  have lt3 : ∀ x ∈ p3, x.block < W.heap.size := by obtain ⟨m, hm⟩ := k3; exact DataW.trod_lt m _ _ _ hm
  obtain ⟨u3, rfl⟩ := vl_arg (hval 3 25 v3 rfl rfl) h3
  clear hA0 hval0
  refine (walk s0 a1 n1 c1 l1 a2 n2 c2 l2 u3 W hS0 hP1 hR1 hL1 hP2 hR2 hL2).mono fun e W' ⟨he, bel⟩ => ?_
  subst he
  exact ⟨_, rfl, _, _, _, [], _, [], hW', trodAll_mk1 (shut_bool Tryz.underlying4 _), (trodAll_cons_mk (Below.trod laidOut (by kernel_rfl) (of_decide_eq_true (by kernel_rfl)) k0 bel lt0) (trodAll_cons_mk (Below.trod laidOut (by kernel_rfl) (of_decide_eq_true (by kernel_rfl)) k1 bel lt1) (trodAll_cons_mk (Below.trod laidOut (by kernel_rfl) (of_decide_eq_true (by kernel_rfl)) k2 bel lt2) (trodAll_cons_mk (Below.trod laidOut (by kernel_rfl) (of_decide_eq_true (by kernel_rfl)) k3 bel lt3) trodAll_mk0)))), rfl, bel.frame _, fun h => by cases h⟩
theorem over : Rows.seriesJoinsRow.holds Tryz.pinned (OpenSpec.ofChange Rows.seriesJoinsSpec) :=
  OpenClaim.holds_of_wide 4 Tryz.f4 rfl rfl rfl rfl rfl rfl rfl ⟨rfl, rfl, rfl, rfl, rfl⟩ rfl rfl rfl rfl rfl (by kernel_rfl) Tryz.func4 (by kernel_rfl)
    (of_decide_eq_true (by kernel_rfl)) (by unfold Func.isWrapper; first | (rw [if_pos (by decide +kernel)]; kernel_rfl) | (rw [if_neg (by decide +kernel)]; exact ⟨rfl, rfl⟩))
    (fun os started H enc _ => lifted os started H enc)
end Go.Proofs.YtejdmielhaldaaaGreat.seriesJoins
namespace Go.Proofs.YtejdmielhaldaaaGreat
/-- The statement. -/
theorem seriesJoins_holds : Rows.SeriesJoinsSaid := seriesJoins.over
#print axioms seriesJoins_holds
end Go.Proofs.YtejdmielhaldaaaGreat
