/-
  Proved here: 'klaxonlaw03.PageBytes' (P3.1 to P3.3), called with any int, any page and any bytes, in any memory, returns true, and its arguments read afterwards as they read before: Room, Put and Get are the document's own. No condition beyond the row's own.
-/
import Derived.Test.YtcgjolonapndgaaRows
import Derived.WalkKit
import Derived.ProofKit
import Derived.OpenShut
import Derived.ShutString
import Derived.ChangeOld
import Derived.Below
import Derived.Test.YtcgjolonapndgaaRGet
namespace Go.Proofs.Ytcgjolonapndgaa.pageBytes
open Go.ChangeShapes Go.WideShapes Go.ChangeAt Go.RowKit
open Go.ChangeMaps (open_string shut_string)
set_option linter.unusedVariables false

theorem own : ownKnob Try.prog.godebug = none := by kernel_rfl
theorem laidOut : laidOutB Try.prog = true := by kernel_rfl

/-! ### The walk -/
/-- What Put lays. -/
def putB (size : Int) (k : Int) (i : Nat) (A : List Int) : List Int := if putE size k A.length = 0 then pageB size.toNat k i A else []
theorem put_u (size k : Int) (i : Nat) (a : Option Addr) (len cap : Nat) (A : List Int) (w : World) (hk : 0 ≤ k ∧ k < 256) (hi : i < 2 ^ 32) (hb : Bts w (.slice a len cap) A) (hA : IsBytes A) (hl : len = A.length) :
    Calls Try.prog 10 #[.int .i64 size, .agg #[.int .u8 k, .int .u32 i, .slice a len cap]] w fun e w' => ∃ v, e = .returned (.tuple #[v, .int .i64 (putE size k len)]) ∧ Bts w' v (putB size k i A) ∧ Below w.heap.size w w' := by
  unfold putB
  rw [← hl]
  by_cases hE : putE size k len = 0
  · rw [if_pos hE, hE]
    obtain ⟨h1, h2, h3, h4⟩ := putE_zero hE
    obtain ⟨n, rfl⟩ : ∃ s : Nat, size = s := ⟨size.toNat, by omega⟩
    rw [Int.toNat_natCast]
    refine (put_ok n k i _ A w (by omega) (by omega) ⟨by omega, hk.2⟩ hi hb hA (by omega)).mono fun e w' h => ⟨_, h.1, ?_, h.2.2⟩
    have := h.2.1.bts
    rwa [pageB_len _ _ _ _ (by omega)] at this
  · rw [if_neg hE]
    exact (put_bad size k i a len cap w hk.1 hE).mono fun e w' h => ⟨_, h.1, bts_nil _, h.2⟩
theorem rput_u (size k : Int) (i : Nat) (a : Option Addr) (len cap : Nat) (A : List Int) (w : World) (hk : 0 ≤ k ∧ k < 256) (hi : i < 2 ^ 32) (hb : Bts w (.slice a len cap) A) (hA : IsBytes A) (hl : len = A.length) :
    Calls Try.prog 11 #[.int .i64 size, .agg #[.int .u8 k, .int .u32 i, .slice a len cap]] w fun e w' => e = .returned (.tuple #[.string (strOfNums (putB size k i A)), .int .i64 (putE size k len)]) ∧ Below w.heap.size w w' := by
  unfold putB
  rw [← hl]
  by_cases hE : putE size k len = 0
  · rw [if_pos hE, hE]
    obtain ⟨h1, h2, h3, h4⟩ := putE_zero hE
    obtain ⟨n, rfl⟩ : ∃ s : Nat, size = s := ⟨size.toNat, by omega⟩
    rw [Int.toNat_natCast]
    exact rput_ok n k i _ A w (by omega) (by omega) ⟨by omega, hk.2⟩ hi hb hA (by omega)
  · rw [if_neg hE]
    exact rput_bad size k i a len cap w hk.1 hE
/-- What Get answers. -/
def gK (bs : List Int) : Int := if isPage bs = true then kindOf bs else 0
def gI (bs : List Int) : Nat := if isPage bs = true then idOf bs else 0
def gL (bs : List Int) : List Int := if isPage bs = true then loadOf bs else []
def gE (bs : List Int) : Int := if isPage bs = true then 0 else 30
theorem gE_in (bs : List Int) : 0 ≤ gE bs ∧ gE bs ≤ 30 := by unfold gE; split <;> omega
theorem gL_bytes (bs : List Int) (h : IsBytes bs) : IsBytes (gL bs) := by
  unfold gL
  split
  · exact (h.drop 7).take _
  · intro c hc; cases hc
theorem get_u (v : Value) (bs : List Int) (w : World) (hb : Bts w v bs) (hby : IsBytes bs) :
    Calls Try.prog 12 #[v] w fun e w' => ∃ v', e = .returned (.tuple #[.agg #[.int .u8 (gK bs), .int .u32 (gI bs), v'], .int .i64 (gE bs)]) ∧ Bts w' v' (gL bs) ∧ Below w.heap.size w w' := by
  unfold gK gI gL gE
  by_cases h : isPage bs = true
  · rw [if_pos h, if_pos h, if_pos h, if_pos h]
    refine (get_yes v bs w hb hby h).mono ?_
    rintro e w' ⟨lv, rfl, ⟨base, _, ho⟩, hB⟩
    exact ⟨lv, rfl, ho.bts, hB⟩
  · rw [if_neg h, if_neg h, if_neg h, if_neg h]
    exact (get_no v bs w hb hby (by simpa using h)).mono fun e w' h => ⟨_, h.1, bts_nil _, h.2⟩
theorem rget_u (bs : List Int) (w : World) (hby : IsBytes bs) (hl : bs.length ≤ 1000000) :
    Calls Try.prog 13 #[.string (strOfNums bs)] w fun e w' => ∃ v', e = .returned (.tuple #[.agg #[.int .u8 (gK bs), .int .u32 (gI bs), v'], .int .i64 (gE bs)]) ∧ Bts w' v' (gL bs) ∧ Below w.heap.size w w' := by
  unfold gK gI gL gE
  by_cases h : isPage bs = true
  · rw [if_pos h, if_pos h, if_pos h, if_pos h]
    exact rget_yes bs w hby h
  · rw [if_neg h, if_neg h, if_neg h, if_neg h]
    exact (rget_no bs w hby hl (by simpa using h)).mono fun e w' h => ⟨_, h.1, bts_nil _, h.2⟩
def roomZ (size : Int) : Int := if size < 64 ∨ 8192 < size then 0 else size - 11
theorem room_u (size : Int) (w : World) : Calls Try.prog 16 #[.int .i64 size] w fun e w' => e = .returned (.int .i64 (roomZ size)) ∧ w' = w := by
  unfold roomZ
  by_cases h : size < 64 ∨ 8192 < size
  · rw [if_pos h]; exact room_bad size w h
  · rw [if_neg h]; exact room_ok size w (by omega) (by omega)
theorem rroom_u (size : Int) (w : World) : Calls Try.prog 17 #[.int .i64 size] w fun e w' => e = .returned (.int .i64 (roomZ size)) ∧ w' = w := by
  unfold roomZ
  by_cases h : size < 64 ∨ 8192 < size
  · rw [if_pos h]; exact rroom_bad size w h
  · rw [if_neg h]; exact rroom_ok size w (by omega) (by omega)
theorem putB_bytes (size k : Int) (i : Nat) (A : List Int) (hk : 0 ≤ k ∧ k < 256) (hA : IsBytes A) : IsBytes (putB size k i A) := by
  unfold putB
  split
  · exact pageB_bytes _ _ _ _ hk hA
  · intro c hc; cases hc
set_option maxRecDepth 100000 in
set_option maxHeartbeats 4000000 in
theorem out_len (a0 k1 : Int) (i1 : Nat) (a1 : Option Addr) (len1 cap1 : Nat) (a2 : Option Addr) (len2 cap2 : Nat) (w : World) (h : (20000 : Int) < (len1 : Int) ∨ ¬ (20000 : Int) < (len1 : Int) ∧ (20000 : Int) < (len2 : Int)) :
    Calls Try.prog 3 #[.int .i64 a0, .agg #[.int .u8 k1, .int .u32 i1, .slice a1 len1 cap1], .slice a2 len2 cap2] w fun e w' => e = .returned (.bool true) ∧ Below w.heap.size w w' := by
  have hB0 : Below w.heap.size w (w.alloc (.cells #[.int .u8 k1, .int .u32 i1, .slice a1 len1 cap1] 25)) := (Below.refl _ w).alloc (Nat.le_refl _) _
  rcases h with h | ⟨h0, h⟩
  · go_enter Try.func3, Try.ntmps3
    go_wp2_with (first | (go_at_call 9; refine (live_any _).mono ?_; rintro e w2 ⟨rfl, hb2⟩))
    go_ret
    exact ⟨rfl, hB0.trans (hb2.mono hB0.size)⟩
  · have h0' : decide ((20000 : Int) < (len1 : Int)) = false := by simpa using h0
    go_enter Try.func3, Try.ntmps3
    go_wp2_with (first | (go_at_call 9; refine (live_any _).mono ?_; rintro e w2 ⟨rfl, hb2⟩))
    go_ret
    exact ⟨rfl, hB0.trans (hb2.mono hB0.size)⟩
set_option maxRecDepth 100000 in
set_option maxHeartbeats 8000000 in
theorem main (a0 k1 : Int) (i1 : Nat) (a1 : Option Addr) (len1 cap1 : Nat) (a2 : Option Addr) (len2 cap2 : Nat) (A B : List Int) (w : World) (hk1 : 0 ≤ k1 ∧ k1 < 256) (hi1 : i1 < 2 ^ 32) (hb1 : Bts w (.slice a1 len1 cap1) A) (hA : IsBytes A) (hlA : len1 = A.length) (hb2 : Bts w (.slice a2 len2 cap2) B) (hB : IsBytes B) (hlB : len2 = B.length) (hl1 : len1 ≤ 20000) (hl2 : len2 ≤ 20000) :
    Calls Try.prog 3 #[.int .i64 a0, .agg #[.int .u8 k1, .int .u32 i1, .slice a1 len1 cap1], .slice a2 len2 cap2] w fun e w' => e = .returned (.bool true) ∧ Below w.heap.size w w' := by
  have g1 : decide ((20000 : Int) < (len1 : Int)) = false := by simp; omega
  have g2 : decide ((20000 : Int) < (len2 : Int)) = false := by simp; omega
  have hX3 : PageAt ((w.alloc (.cells #[.int .u8 k1, .int .u32 i1, .slice a1 len1 cap1] 25)).alloc (.cells #[.int .u8 k1, .int .u32 i1, .slice a1 len1 cap1] 25)) w.heap.size k1 i1 (.slice a1 len1 cap1) := heap2f w _ _
  have hG3 : PageAt ((w.alloc (.cells #[.int .u8 k1, .int .u32 i1, .slice a1 len1 cap1] 25)).alloc (.cells #[.int .u8 k1, .int .u32 i1, .slice a1 len1 cap1] 25)) (w.heap.size + 1) k1 i1 (.slice a1 len1 cap1) := heap2 w _ _
  have hB3 : Below w.heap.size w ((w.alloc (.cells #[.int .u8 k1, .int .u32 i1, .slice a1 len1 cap1] 25)).alloc (.cells #[.int .u8 k1, .int .u32 i1, .slice a1 len1 cap1] 25)) := ((Below.refl _ w).alloc (Nat.le_refl _) _).alloc (by simp) _
  have hputx := fun a c W h => put_u a0 k1 i1 a len1 c A W hk1 hi1 h hA hlA
  have hrputx := fun W h => rput_u a0 k1 i1 a1 len1 cap1 A W hk1 hi1 h hA hlA
  have hE := putE_in a0 k1 len1
  have hPb := putB_bytes a0 k1 i1 A hk1 hA
  generalize putB a0 k1 i1 A = PB at *
  generalize putE a0 k1 len1 = E at *
  have hgetu := fun v W h => get_u v B W h hB
  have hrgetu := fun W => rget_u B W hB (by omega)
  have hgL := gL_bytes B hB
  have hgE := gE_in B
  generalize gK B = gk at *
  generalize gI B = gi at *
  generalize gL B = gl at *
  generalize gE B = ge at *
  have hroom := room_u a0
  have hrroom := rroom_u a0
  generalize roomZ a0 = rz at *
  replace hlA : Hid _ := hlA
  replace hlB : Hid _ := hlB
  go_enter Try.func3, Try.ntmps3
  go_upto_region 4 with fail
  generalize (w.alloc (.cells #[.int .u8 k1, .int .u32 i1, .slice a1 len1 cap1] 25)).alloc (.cells #[.int .u8 k1, .int .u32 i1, .slice a1 len1 cap1] 25) = W3 at *
  obtain ⟨x30, x31, x32⟩ := hX3.cells
  have hX3a := hX3.alloc (.cells #[] 5)
  obtain ⟨xa0, xa1, xa2⟩ := hX3a.cells
  have hbA3 := hb1.grow hB3
  go_upto_region 5 with (first | (at_builtin; refine appX rfl (.tmp 27) (.tmp 29) rfl W3.heap.size _ (.slice a1 len1 cap1) [] A rfl rfl (own_empty W3) (hbA3.alloc _) (by simp) (by rw [← hlA.out]; simp; omega) ?_; intro v4 w4 ho4 hb4 _; rw [List.nil_append] at ho4; obtain ⟨a4, c4, hv4⟩ := ho4.bts.split; rw [← hlA.out] at hv4; subst hv4; have hB34 : Below W3.heap.size W3 w4 := ((Below.refl _ W3).alloc (Nat.le_refl _) _).trans hb4; have hG4 := hG3.keep (hB34.block _ hG3.lt); have hX4 := hX3.keep (hB34.block _ hX3.lt); obtain ⟨y40, y41, y42⟩ := hG4.cells; obtain ⟨f40, f41, f42⟩ := hG4.frozen))
  have hG5 := setLoad (v2 := .slice a4 len1 c4) hG4
  have hX5 := hX4.keep (Below.heap_setCell w4 ⟨w.heap.size + 1, 2, none⟩ (.slice a4 len1 c4) w.heap.size (by simp))
  have hB4 := hB3.trans (hB34.mono hB3.size)
  have hB5 := hB4.setCell (p := ⟨w.heap.size + 1, 2, none⟩) (by simp) (.slice a4 len1 c4)
  have hlt3 := hG3.lt
  have ho5 : Bts (w4.setCell ⟨w.heap.size + 1, 2, none⟩ (.slice a4 len1 c4)) (.slice a4 len1 c4) A := ho4.bts.keep (fun k hk => Below.heap_setCell _ _ _ _ (by have := (ho4.lt k hk).1; show k ≠ w.heap.size + 1; omega))
  generalize w4.setCell ⟨w.heap.size + 1, 2, none⟩ (.slice a4 len1 c4) = W5 at *
  obtain ⟨g50, g51, g52⟩ := hG5.cells
  clear hX3 hG3 hB3 hX3a xa0 xa1 xa2 x30 x31 x32 hbA3 ho4 hb4 hB34 hG4 hX4 y40 y41 y42 f40 f41 f42 hB4
  go_wp2_with fail
  refine (hputx a4 c4 _ ho5).mono ?_
  rintro e w6 ⟨vp, rfl, hbp6, hb6⟩
  have hX6 := hX5.keep (hb6.block _ hX5.lt)
  have hB6 := hB5.trans (hb6.mono hB5.size)
  obtain ⟨x60, x61, x62⟩ := hX6.cells
  obtain ⟨ap, cp, hvp⟩ := hbp6.split
  obtain ⟨np, hnp⟩ : ∃ n, n = PB.length := ⟨_, rfl⟩
  rw [← hnp] at hvp
  subst hvp
  replace hnp : Hid _ := hnp
  clear hX5 hG5 hB5 ho5 g50 g51 g52 hputx
  go_wp2_with fail
  refine (hrputx _ (hb1.grow hB6)).mono ?_
  rintro e w7 ⟨rfl, hb7⟩
  have hB7 := hB6.trans (hb7.mono hB6.size)
  have hbp7 := hbp6.grow hb7
  have hb27 := hb2.grow hB7
  clear hX6 hB6 hbp6 x60 x61 x62 hb6 hb7 hrputx
  go_upto_region 8 with (first
    | (at_builtin; refine appX rfl (.tmp 45) (.tmp 46) rfl w7.heap.size _ (.slice a2 len2 cap2) [] B rfl rfl (own_empty w7) (hb27.alloc _) (by simp) (by rw [← hlB.out]; simp; omega) ?_; intro v8 w8 ho8 hb8 _; rw [List.nil_append] at ho8)
    | (go_at_call 12; refine (hgetu _ _ ho8.bts).mono ?_; rintro e w9 ⟨vy, rfl, hby9, hb9⟩; obtain ⟨ay, cy, hvy⟩ := hby9.split; obtain ⟨ny, hny⟩ : ∃ n, n = gl.length := ⟨_, rfl⟩; rw [← hny] at hvy; subst hvy; replace hny : Hid _ := hny))
  have hB78 : Below w7.heap.size w7 w8 := ((Below.refl _ w7).alloc (Nat.le_refl _) _).trans hb8
  have hB79 := hB78.trans (hb9.mono hB78.size)
  have hB9 := hB7.trans (hB79.mono hB7.size)
  have hBA := hB9.alloc hB9.size (.cells #[.int .u8 gk, .int .u32 gi, .slice ay ny cy] 25)
  have hYA : PageAt (w9.alloc (.cells #[.int .u8 gk, .int .u32 gi, .slice ay ny cy] 25)) w9.heap.size gk gi (.slice ay ny cy) := heap_alloc_new w9 _
  have hbyA := hby9.alloc (.cells #[.int .u8 gk, .int .u32 gi, .slice ay ny cy] 25)
  have hbpA := (hbp7.grow hB79).alloc (.cells #[.int .u8 gk, .int .u32 gi, .slice ay ny cy] 25)
  have hb2A := hb2.grow hBA
  generalize w9.alloc (.cells #[.int .u8 gk, .int .u32 gi, .slice ay ny cy] 25) = WA at *
  generalize w9.heap.size = yb at *
  have hcvB := conv_str hb2A
  clear hB7 hbp7 hb27 ho8 hb8 hb9 hB78 hB79 hB9 hby9 hgetu
  go_wp2_with fail
  refine (hrgetu _).mono ?_
  rintro e w10 ⟨vz, rfl, hbz10, hb10⟩
  obtain ⟨az, cz, hvz⟩ := hbz10.split
  obtain ⟨nz, hnz⟩ : ∃ n, n = gl.length := ⟨_, rfl⟩
  rw [← hnz] at hvz
  subst hvz
  replace hnz : Hid _ := hnz
  have hB10 := hBA.trans (hb10.mono hBA.size)
  have hBC := hB10.alloc hB10.size (.cells #[.int .u8 gk, .int .u32 gi, .slice az nz cz] 25)
  have hY10 := hYA.keep (hb10.block _ hYA.lt)
  have hYC := hY10.alloc (.cells #[.int .u8 gk, .int .u32 gi, .slice az nz cz] 25)
  have hZC : PageAt (w10.alloc (.cells #[.int .u8 gk, .int .u32 gi, .slice az nz cz] 25)) w10.heap.size gk gi (.slice az nz cz) := heap_alloc_new w10 _
  have hbyC := (hbyA.grow hb10).alloc (.cells #[.int .u8 gk, .int .u32 gi, .slice az nz cz] 25)
  have hbzC := hbz10.alloc (.cells #[.int .u8 gk, .int .u32 gi, .slice az nz cz] 25)
  have hbpC := (hbpA.grow hb10).alloc (.cells #[.int .u8 gk, .int .u32 gi, .slice az nz cz] 25)
  go_upto_region 9 with fail
  generalize w10.alloc (.cells #[.int .u8 gk, .int .u32 gi, .slice az nz cz] 25) = WC at *
  generalize w10.heap.size = zb at *
  have hcvP := conv_str hbpC
  obtain ⟨y0, y1, y2⟩ := hYC.cells
  obtain ⟨z0, z1, z2⟩ := hZC.cells
  clear hB10 hY10 hbyA hbpA hb10 hbz10 hYA hcvB hb2A hBA hYC hZC hrgetu
  have hsame := same_any gk gk gi gi _ _ gl gl WC hbyC hbzC hgL hgL
  clear hbyC hbzC hbpC
  go_wp2_with (first
    | (go_at_call 14; refine (num_any _ _ (by omega) (by omega)).mono ?_; rintro e w11 ⟨rfl, hw11⟩; subst w11)
    | (go_at_call 15; refine hsame.mono ?_; rintro e w12 ⟨rfl, hb12⟩)
    | (go_at_call 16; refine (hroom _).mono ?_; rintro e w13 ⟨rfl, hw13⟩; subst w13)
    | (go_at_call 17; refine (hrroom _).mono ?_; rintro e w14 ⟨rfl, hw14⟩; subst w14)
    | (go_at_call 9; refine (live_any _).mono ?_; rintro e w15 ⟨rfl, hb15⟩))
  go_ret
  have hB12 := hBC.trans (hb12.mono hBC.size)
  exact ⟨rfl, hB12.trans (hb15.mono hB12.size)⟩
theorem walk (a0 : Int) (k1 : Int) (i1 : Nat) (a1 : Option Addr) (len1 cap1 : Nat) (z1 : List Int) (a2 : Option Addr) (len2 cap2 : Nat) (z2 : List Int) (w : World) (w0 : (Lit.int .i64 a0).wf = true) (hk1 : 0 ≤ k1 ∧ k1 < 256) (hi1 : i1 < 2 ^ 32) (w1 : IsRow .u8 w a1 len1 cap1 z1) (w2 : IsRow .u8 w a2 len2 cap2 z2) :
    Calls Try.prog 3 #[.int .i64 a0, .agg #[.int .u8 k1, .int .u32 i1, .slice a1 len1 cap1], .slice a2 len2 cap2] w fun e w' => e = .returned (.bool true) ∧ Below w.heap.size w w' := by
  by_cases hl : (20000 : Int) < (len1 : Int) ∨ ¬ (20000 : Int) < (len1 : Int) ∧ (20000 : Int) < (len2 : Int)
  · exact out_len a0 k1 i1 a1 len1 cap1 a2 len2 cap2 w hl
  · exact main a0 k1 i1 a1 len1 cap1 a2 len2 cap2 _ _ w hk1 hi1 w1.bts w1.isBytes w1.len.symm w2.bts w2.isBytes w2.len.symm (by omega) (by omega)

/-! ### THE ROW's STEP: WRITTEN OUT: LEAVE IT -/
set_option maxRecDepth 100000 in
theorem lifted (os : Os) (started : os.Started) (H : Type) (enc : TypeId × Value → H) :
    ReturnsInHanded {} Try.checked os 3 .any (Rows.pageBytesSpec.pre6 enc Try.prog Try.f3 Rows.pageBytesRow.domain false) (Rows.pageBytesSpec.post enc Try.prog Try.f3 false true false false) := by
  refine returnsInHanded_of_change (C := Try.checked) own started (by kernel_rfl) Try.func3
    (ChangeSpec.witness6 (enc := enc) (C := Try.checked) false ⟨#[], #[.int .i64 0, .agg #[.int .u8 0, .int .u32 0, .slice none 0 0], .slice none 0 0], []⟩ 8 (by kernel_rfl) (by kernel_rfl) (by kernel_rfl) (by kernel_rfl)) ?_
  intro W base args ds gs before hval0 hW hcnd _
  have hval : ∀ (j : Nat) t v, Try.f3.params[j]? = some t → args[j]? = some v → Value.okWide Try.prog W .any base t v := hval0
  have hW' := hW
  obtain ⟨p, q, hA0, hV, rfl, hfz, hnd⟩ := hW
  have hA : DataW.TrodAll enc Try.prog W 0 (fun _ => true) true Try.f3.params.toList args.toList ds p := hA0
  rw [Try.params3] at hA hval
  obtain ⟨v0, vs0, d0, ds0, p0, q0, hargs, rfl, rfl, h0, r0⟩ := trodAll_cons hA
  obtain ⟨v1, vs1, d1, ds1, p1, q1, rfl, rfl, rfl, h1, r1⟩ := trodAll_cons r0
  obtain ⟨v2, vs2, d2, ds2, p2, q2, rfl, rfl, rfl, h2, r2⟩ := trodAll_cons r1
  obtain ⟨rfl, rfl, rfl⟩ := trodAll_nil r2
  obtain rfl : args = #[v0, v1, v2] := by cases args; simp_all
  obtain ⟨rfl, rfl⟩ := trodVars_none hV
  obtain ⟨a0, rfl, rfl, rfl, w0⟩ := open_int Try.underlying3 (hval 0 3 v0 rfl rfl) h0
  have k1 := h1
  have lt1 : ∀ x ∈ p1, x.block < W.heap.size := by obtain ⟨m, hm⟩ := k1; exact DataW.trod_lt m _ _ _ hm
  obtain ⟨kd1, id1, a1, len1, cap1, z1, rfl, hk1, hi1, w1⟩ := page_arg (hval 1 25 v1 rfl rfl) h1
  obtain ⟨a2, len2, cap2, rfl⟩ := okWide_slice Try.underlying23 (hval 2 23 v2 rfl rfl)
  have k2 := h2
  have lt2 : ∀ x ∈ p2, x.block < W.heap.size := by obtain ⟨m, hm⟩ := k2; exact DataW.trod_lt m _ _ _ hm
  obtain ⟨z2, w2⟩ : ∃ zs, IsRow .u8 W a2 len2 cap2 zs := by
    obtain ⟨fuel, hf⟩ := h2
    obtain ⟨x, l, c, zs, e, hr⟩ := bytes_of_trod hf
    cases e
    exact ⟨zs, hr⟩
  clear hA0 hval0
  refine (walk a0 kd1 id1 a1 len1 cap1 z1 a2 len2 cap2 z2 W w0 hk1 hi1 w1 w2).mono fun e W' ⟨he, bel⟩ => ?_
  subst he
  exact ⟨_, rfl, _, _, _, [], _, [], hW', trodAll_mk1 (shut_bool Try.underlying4 _), (trodAll_cons_mk (shut_int Try.underlying3 w0) (trodAll_cons_mk (Below.trod laidOut (by kernel_rfl) (of_decide_eq_true (by kernel_rfl)) k1 bel lt1) (trodAll_cons_mk (Below.trod laidOut (by kernel_rfl) (of_decide_eq_true (by kernel_rfl)) k2 bel lt2) trodAll_mk0))), rfl, bel.frame _, fun h => by cases h⟩

theorem over : Rows.pageBytesRow.holds Try.pinned (OpenSpec.ofChange Rows.pageBytesSpec) :=
  OpenClaim.holds_of_wide 3 Try.f3 rfl rfl rfl rfl rfl rfl rfl ⟨rfl, rfl, rfl, rfl, rfl⟩ rfl rfl rfl rfl rfl (by kernel_rfl) Try.func3 (by kernel_rfl)
    (of_decide_eq_true (by kernel_rfl)) (by unfold Func.isWrapper; first | (rw [if_pos (by decide +kernel)]; kernel_rfl) | (rw [if_neg (by decide +kernel)]; exact ⟨rfl, rfl⟩))
    (fun os started H enc _ => lifted os started H enc)

end Go.Proofs.Ytcgjolonapndgaa.pageBytes
namespace Go.Proofs.Ytcgjolonapndgaa
/-- The statement. -/
theorem pageBytes_holds : Rows.PageBytesSaid := pageBytes.over
#print axioms pageBytes_holds
end Go.Proofs.Ytcgjolonapndgaa
