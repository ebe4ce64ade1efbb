/-
  Proved here: 'klaxonlaw01.QuillParts' (P1.2), called with any bytes, ints and byte, in any memory, returns true, and its arguments read afterwards as they read before: the mark hangs on the bytes alone, not on how they are parted, and a byte that is another one has another mark. No condition beyond the row's own.
-/
import Derived.Test.YtjieelpbifdfbaaRows
import Derived.WalkKit
import Derived.ProofKit
import Derived.OpenShut
import Derived.ShutString
import Derived.ChangeOld
import Derived.Below
import Derived.Test.YtjieelpbifdfbaaLive
import Derived.Test.YtjieelpbifdfbaaMark2
import Derived.Test.YtjieelpbifdfbaaArgs
import Derived.Deep.RegionHeld3
namespace Go.Proofs.Ytjieelpbifdfbaa.quillParts
open Go.ChangeShapes Go.WideShapes Go.ChangeAt Go.RowKit
open Go.ChangeMaps (open_string shut_string)
set_option linter.unusedVariables false

theorem own : ownKnob Try.prog.godebug = none := by kernel_rfl
theorem laidOut : laidOutB Try.prog = true := by kernel_rfl

theorem heap1d (w : World) (a : Obj) : (w.alloc a).drew.heap[w.heap.size]? = some a := heap_alloc_new w a
theorem heap2 (w : World) (a b : Obj) : ((w.alloc a).alloc b).drew.heap[w.heap.size + 1]? = some b := by
  show ((w.heap.push a).push b)[w.heap.size + 1]? = _
  simp only [Array.getElem?_push, Array.size_push]; rw [if_pos trivial]
theorem heap3d (w : World) (a b c : Obj) : (((w.alloc a).alloc b).alloc c).drew.heap[w.heap.size + 1 + 1]? = some c := (heap3 w a b c).2.2
theorem bel2 (w : World) (a b : Obj) : Below w.heap.size w ((w.alloc a).alloc b).drew := (((Below.refl _ w).alloc (Nat.le_refl _) a).alloc (by simp) b).drew
theorem bel3 (w : World) (a b c : Obj) : Below w.heap.size w (((w.alloc a).alloc b).alloc c).drew := ((((Below.refl _ w).alloc (Nat.le_refl _) a).alloc (by simp) b).alloc (by simp; omega) c).drew
/-! ### The walk -/
set_option maxRecDepth 100000 in
set_option maxHeartbeats 2000000 in
theorem walk_out (v : Value) (bs : List Int) (cut at_ by_ : Int) (w : World) (hb : Bts w v bs) (h : (20000 : Int) < bs.length ∨ (bs.length : Int) ≤ 20000 ∧ (cut < 0 ∨ 0 ≤ cut ∧ (bs.length : Int) < cut)) :
    Calls Try.prog 8 #[v, .int .i64 cut, .int .i64 at_, .int .u8 by_] w fun e w' => e = .returned (.bool true) ∧ Below w.heap.size w w' := by
  have hlen := len_bts hb
  rcases h with h | ⟨h0, h | ⟨h1, h⟩⟩
  all_goals
    go_enter Try.func8, Try.ntmps8
    go_wp2_with (go_at_call 10; refine (live_any _).mono ?_; rintro e w1 ⟨rfl, hb1⟩)
    go_ret
    exact ⟨rfl, hb1⟩

set_option maxRecDepth 100000 in
set_option maxHeartbeats 4000000 in
theorem walk_far (v : Value) (bs : List Int) (cut : Nat) (at_ by_ : Int) (w : World) (hb : Bts w v bs) (hby : IsBytes bs) (h0 : bs.length ≤ 20000) (hc : cut ≤ bs.length) (ha : at_ < 0 ∨ 0 ≤ at_ ∧ (bs.length : Int) ≤ at_) :
    Calls Try.prog 8 #[v, .int .i64 cut, .int .i64 at_, .int .u8 by_] w fun e w' => e = .returned (.bool true) ∧ Below w.heap.size w w' := by
  obtain ⟨a, c, rfl⟩ := hb.shape
  obtain ⟨v1, hr1, hb1⟩ := slice_toI hb cut hc
  obtain ⟨a1, c1, rfl⟩ := hb1.shape
  obtain ⟨v2, hr2, hb2, _⟩ := slice_from hb cut hc
  obtain ⟨a2, c2, rfl⟩ := hb2.shape
  have hm1 := mark_at [.slice a bs.length c] [bs] rfl (by simpa using hby) (by simp; omega) (by simp) (by intro t ht; have : t = 0 := by { simp at ht; exact ht }; subst this; exact hb) 1 rfl (mfold 4294967295 bs) (by simp)
  have hm2 := mark_at [.slice a1 (bs.take cut).length c1, .slice a2 (bs.drop cut).length c2] [bs.take cut, bs.drop cut] rfl (by intro p hp; simp at hp; rcases hp with rfl | rfl; exact hby.take _; exact hby.drop _) (by intro p hp; simp at hp; rcases hp with rfl | rfl <;> simp <;> omega) (by simp) (by intro t ht; match t, ht with | 0, _ => exact hb1 | 1, _ => exact hb2) 2 rfl (mfold 4294967295 bs) (by simp)
  have hm3 := mark_at [.slice none 0 0, .slice a bs.length c, .slice none 0 0] [[], bs, []] rfl (by intro p hp; simp at hp; rcases hp with rfl | rfl | rfl; (intro c hc; cases hc); exact hby; (intro c hc; cases hc)) (by intro p hp; simp at hp; rcases hp with rfl | rfl | rfl <;> first | omega | simp) (by simp) (by intro t ht; match t, ht with | 0, _ => exact bts_nil w | 1, _ => exact hb | 2, _ => exact bts_nil w) 3 rfl (mfold 4294967295 bs) (by simp)
  have hm := mfold_lt bs hby 4294967295 (by decide)
  generalize mfold 4294967295 bs = M at hm1 hm2 hm3 hm
  generalize (bs.take cut).length = n1 at hr1 hm2
  generalize (bs.drop cut).length = n2 at hr2 hm2
  have hBA : ∀ o, Below w.heap.size w (w.alloc o) := fun o => (Below.refl _ _).alloc (Nat.le_refl _) _
  clear hb1 hb2
  go_enter Try.func8, Try.ntmps8
  go_wp2_with (go_at_call 17; refine (hm1 _ _ (heap_alloc_new _ _) (hBA _)).mono ?_; rintro e w1 ⟨rfl, hw1⟩; subst w1)
  have tok1 : True := trivial
  go_region_held3 (fun _ => True) (trivial) (first | (go_at_call 17; have _t := tok1; refine (hm2 _ _ (heap2 _ _ _) (bel2 _ _ _)).mono ?_; rintro e w1 ⟨rfl, hw1⟩; subst w1; clear tok1) | (go_at_call 17; refine (hm3 _ _ (heap3d _ _ _ _) (bel3 _ _ _ _)).mono ?_; rintro e w1 ⟨rfl, hw1⟩; subst w1))
  have hB4 := bel3 w (.cells #[.slice a bs.length c] 22) (.cells #[.slice a1 n1 c1, .slice a2 n2 c2] 22) (.cells #[.slice none 0 0, .slice a bs.length c, .slice none 0 0] 22)
  generalize (((w.alloc (.cells #[.slice a bs.length c] 22)).alloc (.cells #[.slice a1 n1 c1, .slice a2 n2 c2] 22)).alloc (.cells #[.slice none 0 0, .slice a bs.length c, .slice none 0 0] 22)).drew = W4 at hB4 ⊢
  clear hm1 hm2 hm3 hr1 hr2
  rcases ha with ha | ⟨ha0, ha⟩
  all_goals
    go_wp2_with (go_at_call 10; refine (live_any _).mono ?_; rintro e w1 ⟨rfl, hb1⟩)
    go_ret
    exact ⟨rfl, hB4.trans (hb1.mono hB4.size)⟩

set_option maxRecDepth 100000 in
set_option maxHeartbeats 4000000 in
theorem walk_near (v : Value) (bs : List Int) (cut : Nat) (k : Nat) (by_ : Int) (w : World) (hb : Bts w v bs) (hby : IsBytes bs) (h0 : bs.length ≤ 20000) (hc : cut ≤ bs.length) (hk : k < bs.length) (h3 : 0 ≤ by_ ∧ by_ < 256) :
    Calls Try.prog 8 #[v, .int .i64 cut, .int .i64 k, .int .u8 by_] w fun e w' => e = .returned (.bool true) ∧ Below w.heap.size w w' := by
  obtain ⟨a, c, rfl⟩ := hb.shape
  obtain ⟨b, o, rfl, hR⟩ : ∃ b o, a = some ⟨b, o, none⟩ ∧ Rest w 0 bs.length b o (fun t => .int .u8 (bs.getD t 0)) := by
    obtain ⟨a', c', e, _, h⟩ := hb
    cases e
    rcases h with h | h
    · subst h; simp at hk
    · exact h
  have hcx : w.cell? ⟨b, o + k, none⟩ = some (.int .u8 (bs.getD k 0)) := hR k (Nat.zero_le _) hk
  have hxb := hby _ (getD_mem bs 0 k hk)
  have hset := mfold_set 4294967295 bs k by_ (by decide) hby hk h3
  obtain ⟨v1, hr1, hb1⟩ := slice_toI hb cut hc
  obtain ⟨a1, c1, rfl⟩ := hb1.shape
  obtain ⟨v2, hr2, hb2, _⟩ := slice_from hb cut hc
  obtain ⟨a2, c2, rfl⟩ := hb2.shape
  have hm1 := mark_at [.slice (some ⟨b, o, none⟩) bs.length c] [bs] rfl (by simpa using hby) (by simp; omega) (by simp) (by intro t ht; have : t = 0 := by { simp at ht; exact ht }; subst this; exact hb) 1 rfl (mfold 4294967295 bs) (by simp)
  have hm2 := mark_at [.slice a1 (bs.take cut).length c1, .slice a2 (bs.drop cut).length c2] [bs.take cut, bs.drop cut] rfl (by intro p hp; simp at hp; rcases hp with rfl | rfl; exact hby.take _; exact hby.drop _) (by intro p hp; simp at hp; rcases hp with rfl | rfl <;> simp <;> omega) (by simp) (by intro t ht; match t, ht with | 0, _ => exact hb1 | 1, _ => exact hb2) 2 rfl (mfold 4294967295 bs) (by simp)
  have hm3 := mark_at [.slice none 0 0, .slice (some ⟨b, o, none⟩) bs.length c, .slice none 0 0] [[], bs, []] rfl (by intro p hp; simp at hp; rcases hp with rfl | rfl | rfl; (intro c hc; cases hc); exact hby; (intro c hc; cases hc)) (by intro p hp; simp at hp; rcases hp with rfl | rfl | rfl <;> first | omega | simp) (by simp) (by intro t ht; match t, ht with | 0, _ => exact bts_nil w | 1, _ => exact hb | 2, _ => exact bts_nil w) 3 rfl (mfold 4294967295 bs) (by simp)
  have hm := mfold_lt bs hby 4294967295 (by decide)
  generalize mfold 4294967295 bs = M at hm1 hm2 hm3 hm hset
  generalize (bs.take cut).length = n1 at hr1 hm2
  generalize (bs.drop cut).length = n2 at hr2 hm2
  have hBA : ∀ o, Below w.heap.size w (w.alloc o) := fun o => (Below.refl _ _).alloc (Nat.le_refl _) _
  clear hb1 hb2
  go_enter Try.func8, Try.ntmps8
  go_wp2_with (go_at_call 17; refine (hm1 _ _ (heap_alloc_new _ _) (hBA _)).mono ?_; rintro e w1 ⟨rfl, hw1⟩; subst w1)
  have tok1 : True := trivial
  go_region_held3 (fun _ => True) (trivial) (first | (go_at_call 17; have _t := tok1; refine (hm2 _ _ (heap2 _ _ _) (bel2 _ _ _)).mono ?_; rintro e w1 ⟨rfl, hw1⟩; subst w1; clear tok1) | (go_at_call 17; refine (hm3 _ _ (heap3d _ _ _ _) (bel3 _ _ _ _)).mono ?_; rintro e w1 ⟨rfl, hw1⟩; subst w1))
  have hB4 := bel3 w (.cells #[.slice (some ⟨b, o, none⟩) bs.length c] 22) (.cells #[.slice a1 n1 c1, .slice a2 n2 c2] 22) (.cells #[.slice none 0 0, .slice (some ⟨b, o, none⟩) bs.length c, .slice none 0 0] 22)
  generalize (((w.alloc (.cells #[.slice (some ⟨b, o, none⟩) bs.length c] 22)).alloc (.cells #[.slice a1 n1 c1, .slice a2 n2 c2] 22)).alloc (.cells #[.slice none 0 0, .slice (some ⟨b, o, none⟩) bs.length c, .slice none 0 0] 22)).drew = W4 at hB4 ⊢
  clear hm1 hm2 hm3 hr1 hr2
  have hb4 := hb.grow hB4
  have hz4 := hB4.size
  go_wp2_with (first | (at_builtin; refine appX rfl (.tmp 54) (.tmp 55) rfl W4.heap.size _ _ [] bs rfl rfl (own_empty W4) (hb4.alloc _) (by simp) (by simp; omega) ?_; intro v5 w5 ho5 hb5 _; obtain ⟨g5, c5, rfl, hg5, hl5⟩ := ho5.form (by simp; omega); rw [List.nil_append] at ho5; obtain ⟨hc5, hf5⟩ := ho5.cellAt k hk))
  have hst := ho5.store hg5 k by_
  have hB6 : Below w.heap.size w (w5.setCell ⟨g5, k, none⟩ (.int .u8 by_)) := (hB4.alloc hz4 _).trans ((hb5.trans hst.2).mono hz4)
  have ho6 := hst.1
  generalize w5.setCell ⟨g5, k, none⟩ (.int .u8 by_) = W6 at hB6 ho6 ⊢
  clear hst hc5 hf5 ho5 hb5 hl5 hb4 hB4
  have hc6 : W6.cell? ⟨b, o + k, none⟩ = some (.int .u8 (bs.getD k 0)) := (hB6.cell (p := ⟨b, o + k, none⟩) (World.block_lt_of_cell? w _ hcx)).trans hcx
  have hne := World.new_ne W6 ⟨b, o + k, none⟩ hc6
  have hb6 : Bts W6 (.slice (some ⟨g5, 0, none⟩) bs.length c5) (bs.set k by_) := ho6.bts
  have hm6 := mark_at [.slice (some ⟨g5, 0, none⟩) bs.length c5] [bs.set k by_] rfl (by simpa using isBytes_set bs k by_ hby h3) (by simp; omega) (by simp) (by intro t ht; have : t = 0 := by { simp at ht; exact ht }; subst this; exact hb6) 1 rfl (mfold 4294967295 (bs.set k by_)) (by simp)
  have hBl : ∀ o, Below W6.heap.size W6 (W6.alloc o).drew := fun o => ((Below.refl _ _).alloc (Nat.le_refl _) _).drew
  have hkI : (k : Int) < (bs.length : Int) := by omega
  have hk0 : (0 : Int) ≤ (k : Int) := by omega
  generalize mfold 4294967295 (bs.set k by_) = M' at hm6 hset
  generalize bs.getD k 0 = x at hset hc6 hxb
  clear hcx hR hb hb6 ho6
  have hkeep : ∀ (q : Obj) (w1 : World), Below (W6.alloc q).drew.heap.size (W6.alloc q).drew w1 → w1.cell? ⟨b, o + k, none⟩ = some (.int .u8 x) ∧ Below w.heap.size w w1 := by
    intro q w1 h
    have hs6 := (hBl q).size
    have h6 : Below W6.heap.size W6 w1 := (hBl q).trans (h.mono hs6)
    exact ⟨(h6.cell (p := ⟨b, o + k, none⟩) (World.block_lt_of_cell? W6 _ hc6)).trans hc6, hB6.trans (h6.mono hB6.size)⟩
  by_cases hx : by_ = x
  · obtain rfl := hset.2 hx
    subst hx
    clear hset
    go_region_held3 (fun w' => w'.cell? ⟨b, o + k, none⟩ = some (.int .u8 by_)) (go_keep) (first | (go_at_call 17; refine (hm6 _ _ (heap1d _ _) (hBl _)).mono ?_; rintro e w1 ⟨rfl, hw1⟩; subst w1) | (go_at_call 10; refine (live_any _).mono ?_; rintro e w1 ⟨rfl, hb1⟩; obtain ⟨hc1, hB1⟩ := hkeep _ _ hb1; clear hb1))
    go_wp2
    go_ret
    exact ⟨rfl, hB1⟩
  · have hMM : ¬ M' = M := fun h => hx (hset.1 h)
    have e1 : ((M' : Int) == (M : Int)) = false := by simp; omega
    have e2 : (by_ == x) = false := by simpa using hx
    clear hset hx hMM
    go_region_held3 (fun w' => w'.cell? ⟨b, o + k, none⟩ = some (.int .u8 x)) (go_keep) (first | (go_at_call 17; refine (hm6 _ _ (heap1d _ _) (hBl _)).mono ?_; rintro e w1 ⟨rfl, hw1⟩; subst w1) | (go_at_call 10; refine (live_any _).mono ?_; rintro e w1 ⟨rfl, hb1⟩; obtain ⟨hc1, hB1⟩ := hkeep _ _ hb1; clear hb1))
    go_wp2
    go_ret
    exact ⟨rfl, hB1⟩

theorem walk (a0 : Option Addr) (len0 cap0 : Nat) (z0 : List Int) (a1 : Int) (a2 : Int) (a3 : Int) (w : World) (w0 : IsRow .u8 w a0 len0 cap0 z0) (w1 : (Lit.int .i64 a1).wf = true) (w2 : (Lit.int .i64 a2).wf = true) (w3 : (Lit.int .u8 a3).wf = true) :
    Calls Try.prog 8 #[.slice a0 len0 cap0, .int .i64 a1, .int .i64 a2, .int .u8 a3] w fun e w' => e = .returned (.bool true) ∧ Below w.heap.size w w' := by
  have hb := w0.bts
  have hby := w0.isBytes
  have h3 := bounds_u8 w3
  generalize z0.take len0 = bs at hb hby
  by_cases hout : (20000 : Int) < bs.length ∨ (bs.length : Int) ≤ 20000 ∧ (a1 < 0 ∨ 0 ≤ a1 ∧ (bs.length : Int) < a1)
  · exact walk_out _ bs a1 a2 a3 w hb hout
  · obtain ⟨cut, rfl⟩ : ∃ n : Nat, a1 = n := ⟨a1.toNat, by omega⟩
    by_cases hf : a2 < 0 ∨ 0 ≤ a2 ∧ (bs.length : Int) ≤ a2
    · exact walk_far _ bs cut a2 a3 w hb hby (by omega) (by omega) hf
    · obtain ⟨k, rfl⟩ : ∃ n : Nat, a2 = n := ⟨a2.toNat, by omega⟩
      exact walk_near _ bs cut k a3 w hb hby (by omega) (by omega) (by omega) (by omega)

/-! ### The row's step -/
set_option maxRecDepth 100000 in
theorem lifted (os : Os) (started : os.Started) (H : Type) (enc : TypeId × Value → H) :
    ReturnsInHanded {} Try.checked os 8 .any (Rows.quillPartsSpec.pre6 enc Try.prog Try.f8 Rows.quillPartsRow.domain false) (Rows.quillPartsSpec.post enc Try.prog Try.f8 false true false false) := by
  refine returnsInHanded_of_change (C := Try.checked) own started (by kernel_rfl) Try.func8
    (ChangeSpec.witness6 (enc := enc) (C := Try.checked) false ⟨#[], #[.slice none 0 0, .int .i64 0, .int .i64 0, .int .u8 0], []⟩ 8 (by kernel_rfl) (by kernel_rfl) (by kernel_rfl) (by kernel_rfl)) ?_
  intro W base args ds gs before hval0 hW hcnd _
  have hval : ∀ (j : Nat) t v, Try.f8.params[j]? = some t → args[j]? = some v → Value.okWide Try.prog W .any base t v := hval0
  have hW' := hW
  obtain ⟨p, q, hA0, hV, rfl, hfz, hnd⟩ := hW
  have hA : DataW.TrodAll enc Try.prog W 0 (fun _ => true) true Try.f8.params.toList args.toList ds p := hA0
  rw [Try.params8] at hA hval
  obtain ⟨v0, vs0, d0, ds0, p0, q0, hargs, rfl, rfl, h0, r0⟩ := trodAll_cons hA
  obtain ⟨v1, vs1, d1, ds1, p1, q1, rfl, rfl, rfl, h1, r1⟩ := trodAll_cons r0
  obtain ⟨v2, vs2, d2, ds2, p2, q2, rfl, rfl, rfl, h2, r2⟩ := trodAll_cons r1
  obtain ⟨v3, vs3, d3, ds3, p3, q3, rfl, rfl, rfl, h3, r3⟩ := trodAll_cons r2
  obtain ⟨rfl, rfl, rfl⟩ := trodAll_nil r3
  obtain rfl : args = #[v0, v1, v2, v3] := by cases args; simp_all
  obtain ⟨rfl, rfl⟩ := trodVars_none hV
  obtain ⟨a0, len0, cap0, rfl⟩ := okWide_slice Try.underlying22 (hval 0 22 v0 rfl rfl)
  have k0 := h0
  have lt0 : ∀ x ∈ p0, x.block < W.heap.size := by obtain ⟨m, hm⟩ := k0; exact DataW.trod_lt m _ _ _ hm
  obtain ⟨z0, w0⟩ : ∃ zs, IsRow .u8 W a0 len0 cap0 zs := by
    obtain ⟨fuel, hf⟩ := h0
    rcases open_ints Try.underlying22 Try.underlying5 (by kernel_rfl) hf with ⟨hcs, _⟩ | ⟨x, l, c, zs, hcs, _, hl, hm, hz, _, hcell, hwz⟩
    · simp [Value.cells] at hcs
      obtain ⟨rfl, rfl, rfl⟩ := hcs
      exact ⟨[], .inl ⟨rfl, rfl, rfl, rfl⟩⟩
    · simp [Value.cells] at hcs
      obtain ⟨rfl, rfl, rfl⟩ := hcs
      exact ⟨zs, .inr ⟨_, rfl, hl, hm, by simpa using hz, hcell, hwz⟩⟩
  obtain ⟨a1, rfl, rfl, rfl, w1⟩ := open_int Try.underlying3 (hval 1 3 v1 rfl rfl) h1
  obtain ⟨a2, rfl, rfl, rfl, w2⟩ := open_int Try.underlying3 (hval 2 3 v2 rfl rfl) h2
  obtain ⟨a3, rfl, rfl, rfl, w3⟩ := open_int Try.underlying5 (hval 3 5 v3 rfl rfl) h3
  clear hA0 hval0
  refine (walk a0 len0 cap0 z0 a1 a2 a3 W w0 w1 w2 w3).mono fun e W' ⟨he, bel⟩ => ?_
  subst he
  exact ⟨_, rfl, _, _, _, [], _, [], hW', trodAll_mk1 (shut_bool Try.underlying4 _), (trodAll_cons_mk (Below.trod laidOut (by kernel_rfl) (of_decide_eq_true (by kernel_rfl)) k0 bel lt0) (trodAll_cons_mk (shut_int Try.underlying3 w1) (trodAll_cons_mk (shut_int Try.underlying3 w2) (trodAll_cons_mk (shut_int Try.underlying5 w3) trodAll_mk0)))), rfl, bel.frame _, fun h => by cases h⟩

theorem over : Rows.quillPartsRow.holds Try.pinned (OpenSpec.ofChange Rows.quillPartsSpec) :=
  OpenClaim.holds_of_wide 8 Try.f8 rfl rfl rfl rfl rfl rfl rfl ⟨rfl, rfl, rfl, rfl, rfl⟩ rfl rfl rfl rfl rfl (by kernel_rfl) Try.func8 (by kernel_rfl)
    (of_decide_eq_true (by kernel_rfl)) (by unfold Func.isWrapper; first | (rw [if_pos (by decide +kernel)]; kernel_rfl) | (rw [if_neg (by decide +kernel)]; exact ⟨rfl, rfl⟩))
    (fun os started H enc _ => lifted os started H enc)

end Go.Proofs.Ytjieelpbifdfbaa.quillParts
namespace Go.Proofs.Ytjieelpbifdfbaa
/-- The statement. -/
theorem quillParts_holds : Rows.QuillPartsSaid := quillParts.over
#print axioms quillParts_holds
end Go.Proofs.Ytjieelpbifdfbaa
