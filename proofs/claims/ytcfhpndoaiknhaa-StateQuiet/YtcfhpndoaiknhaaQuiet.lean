/-
  What does not breach any more goes on alerting for Keep, and then no longer, and a breach in between begins it anew, whatever Keep, moments and gaps are handed in: StateQuiet returns true and changes no argument.
-/
import Derived.Test.YtcfhpndoaiknhaaRows
import Derived.WalkKit
import Derived.ProofKit
import Derived.OpenShut
import Derived.ShutString
import Derived.ChangeOld
import Derived.Below
import Derived.SizedLaws
import Derived.Test.YtcfhpndoaiknhaaGs
import Derived.Test.YtcfhpndoaiknhaaQt
import Derived.Test.YtcfhpndoaiknhaaQm
namespace Go.Proofs.Ytcfhpndoaiknhaa.stateQuiet
open Go.ChangeShapes Go.WideShapes Go.ChangeAt Go.RowKit
open Go.ChangeMaps (open_string shut_string)
set_option linter.unusedVariables false
theorem own : ownKnob Try.prog.godebug = none := by kernel_rfl
theorem laidOut : laidOutB Try.prog = true := by kernel_rfl
/-- How it stands while what breaches no more goes on alerting: qv is since when. -/
def QuI (nw qv : Int) (X : Inst) : Prop := Inv X nw ∧ ((X.st = 3 ∧ X.quiet = qv) ∨ X.st = 1)
theorem quiet_first (keep now : Int) : stepI (newI now) ⟨0, keep, 1, 1⟩ 2 1 1 now = (⟨3, now, now, -1, now, 1, 1⟩ : Inst) := by
  simp [stepI, meansI, moveI, alertI, newI, begI, comeI]
theorem quiet_again {keep nw qv nw' : Int} {X : Inst} (h : QuI nw qv X) (hn : nw ≤ nw') : QuI nw' (-1) (stepI X ⟨0, keep, 1, 1⟩ 2 1 1 nw') ∧ (stepI X ⟨0, keep, 1, 1⟩ 2 1 1 nw').st = 3 ∧ (stepI X ⟨0, keep, 1, 1⟩ 2 1 1 nw').quiet = -1 := by
  have hI := h.1.step hn ⟨0, keep, 1, 1⟩ 2 1 1
  have key : (stepI X ⟨0, keep, 1, 1⟩ 2 1 1 nw').st = 3 ∧ (stepI X ⟨0, keep, 1, 1⟩ 2 1 1 nw').quiet = -1 := by
    obtain ⟨st, since, fr, quiet, seen, vk, vn⟩ := X
    have hs : st = 3 ∨ st = 1 := by
      rcases h.2 with h2 | h2
      · exact .inl h2.1
      · exact .inr h2
    rcases hs with rfl | rfl <;> simp [stepI, meansI, moveI, alertI, begI, comeI]
  exact ⟨⟨hI, .inl key⟩, key⟩
theorem quiet_norm {keep nw nw' : Int} {X : Inst} (h1 : X.st = 1) : (stepI X ⟨0, keep, 1, 1⟩ 1 1 0 nw').st = 1 := by
  obtain ⟨st, since, fr, quiet, seen, vk, vn⟩ := X
  simp only at h1
  subst h1
  simp [stepI, meansI, moveI, calmI, comeI]
theorem quiet_goes {keep nw qv nw' : Int} {X : Inst} (h : QuI nw qv X) (h3 : X.st = 3) (hn : nw ≤ nw') (hk : 0 ≤ keep) (q' : Int) (hq : q' = if qv < 0 then nw' else qv) : QuI nw' q' (stepI X ⟨0, keep, 1, 1⟩ 1 1 0 nw') ∧ (stepI X ⟨0, keep, 1, 1⟩ 1 1 0 nw').st = (if keep = 0 ∨ keep ≤ nw' - q' then 1 else 3) := by
  have hI := h.1.step hn ⟨0, keep, 1, 1⟩ 1 1 0
  obtain ⟨st, since, fr, quiet, seen, vk, vn⟩ := X
  simp only at h3
  subst h3
  have hqv : quiet = qv := by
    rcases h.2 with h2 | h2
    · exact h2.2
    · simp only at h2; omega
  subst hqv
  have hi := h.1
  unfold Inv at hi
  simp only at hi
  have hqq : (if quiet = -1 then nw' else quiet) = q' := by
    rw [hq]
    split <;> split <;> omega
  have key : (stepI ⟨3, since, fr, quiet, seen, vk, vn⟩ ⟨0, keep, 1, 1⟩ 1 1 0 nw').st = (if keep = 0 ∨ keep ≤ nw' - q' then 1 else 3) ∧ ((stepI ⟨3, since, fr, quiet, seen, vk, vn⟩ ⟨0, keep, 1, 1⟩ 1 1 0 nw').st = 3 → (stepI ⟨3, since, fr, quiet, seen, vk, vn⟩ ⟨0, keep, 1, 1⟩ 1 1 0 nw').quiet = q') := by
    unfold stepI moveI
    have hm : meansI ⟨0, keep, 1, 1⟩ 1 = 1 := by simp [meansI]
    rw [hm, if_neg (by decide), if_pos rfl]
    unfold calmI quI
    simp only [hqq, true_and]
    by_cases h0 : 0 < keep
    · rw [if_pos h0]
      by_cases h5 : keep ≤ nw' - q'
      · rw [if_pos h5, if_pos (.inr h5)]
        simp [comeI]
      · rw [if_neg h5, if_neg (by omega)]
        simp
    · rw [if_neg h0, if_pos (.inl (by omega))]
      simp [comeI]
  refine ⟨⟨hI, ?_⟩, key.1⟩
  by_cases h5 : keep = 0 ∨ keep ≤ nw' - q'
  · exact .inr (by rw [key.1, if_pos h5])
  · have h6 : (stepI ⟨3, since, fr, quiet, seen, vk, vn⟩ ⟨0, keep, 1, 1⟩ 1 1 0 nw').st = 3 := by rw [key.1, if_neg h5]
    exact .inl ⟨h6, key.2 h6⟩
set_option maxRecDepth 100000 in
set_option maxHeartbeats 8000000 in
theorem walk (keep now : Int) (v : Value) (l : List Int) (again : Int) (w : World) (hK : I64 keep) (hN : I64 now) (hP : Ins w v l) (hE : ∀ p ∈ l, I64 p) (hL : l.length ≤ 17592186043904) (hA : I64 again) :
    Calls Try.prog 6 #[.int .i64 keep, .int .i64 now, v, .int .i64 again] w fun e w' => e = .returned (.bool true) ∧ Below w.heap.size w w' := by
  obtain ⟨a, c, rfl⟩ := hP.shape
  have hlive := live9
  have hgl : Hid (∀ W, Below w.heap.size w W → Ins W (.slice a l.length c) l) := fun W h => hP.grow h
  obtain ⟨n, hn⟩ : ∃ n, Hid (n = l.length) := ⟨_, rfl⟩
  rw [← hn.out] at hL hgl ⊢
  clear hP hA hN hK hE
  by_cases k0 : keep < 0
  · clear hgl
    go_enter Try.func6, Try.ntmps6
    go_wp2_with (first | (go_at_call 9; refine (hlive _).mono ?_; rintro e wz ⟨rfl, hb⟩))
    go_ret
    exact ⟨rfl, hb⟩
  by_cases k1 : 1000000 < keep
  · clear hgl
    go_enter Try.func6, Try.ntmps6
    go_wp2_with (first | (go_at_call 9; refine (hlive _).mono ?_; rintro e wz ⟨rfl, hb⟩))
    go_ret
    exact ⟨rfl, hb⟩
  by_cases n0 : now < 0
  · clear hgl
    go_enter Try.func6, Try.ntmps6
    go_wp2_with (first | (go_at_call 9; refine (hlive _).mono ?_; rintro e wz ⟨rfl, hb⟩))
    go_ret
    exact ⟨rfl, hb⟩
  by_cases n1 : 549755813888 < now
  · clear hgl
    go_enter Try.func6, Try.ntmps6
    go_wp2_with (first | (go_at_call 9; refine (hlive _).mono ?_; rintro e wz ⟨rfl, hb⟩))
    go_ret
    exact ⟨rfl, hb⟩
  by_cases h100 : 100 < n
  · have h100b : (100 : Int) < (n : Int) := by omega
    clear hgl
    go_enter Try.func6, Try.ntmps6
    go_wp2_with (first | (go_at_call 9; refine (hlive _).mono ?_; rintro e wz ⟨rfl, hb⟩))
    go_ret
    exact ⟨rfl, hb⟩
  have h100b : ¬ (100 : Int) < (n : Int) := by omega
  have hnew : Hid (∀ W, Calls Try.prog 13 #[.int .i64 now] W fun e w' => e = .returned (.agg #[.int .i64 1, .int .i64 now, .int .i64 (-1), .int .i64 (-1), .int .i64 now, .int .i64 2, .int .i64 0]) ∧ Below W.heap.size W w') := fun W => new13 now W
  have hnum : Hid (∀ W, Calls Try.prog 20 #[.int .i64 1] W fun e w' => e = .returned (.agg #[.int .i64 1, .int .i64 1]) ∧ Below W.heap.size W w') := fun W => rnum20 1 W (by decide) (by decide)
  have hnum0 : Hid (∀ W, Calls Try.prog 20 #[.int .i64 0] W fun e w' => e = .returned (.agg #[.int .i64 1, .int .i64 0]) ∧ Below W.heap.size W w') := fun W => rnum20 0 W (by decide) (by decide)
  have hfst : Hid (∀ W, Calls Try.prog 17 #[.agg #[.int .i64 1, .int .i64 now, .int .i64 (-1), .int .i64 (-1), .int .i64 now, .int .i64 2, .int .i64 0], .agg #[.int .i64 0, .int .i64 keep, .int .i64 1, .int .i64 1], .int .i64 2, .agg #[.int .i64 1, .int .i64 1], .int .i64 now] W fun e w' => e = .returned (.agg #[.int .i64 3, .int .i64 now, .int .i64 now, .int .i64 (-1), .int .i64 now, .int .i64 1, .int .i64 1]) ∧ Below W.heap.size W w') := fun W => by
    have := step17 (newI now) ⟨0, keep, 1, 1⟩ 2 1 1 now W (fun h => absurd (show (1 : Int) = 2 from h) (by decide)) (fun h => absurd rfl h)
    rw [quiet_first] at this
    exact this
  have hw0 : Hid (Below w.heap.size w (w.alloc (.cells #[.int .i64 0, .int .i64 keep, .int .i64 1, .int .i64 1] 27)) ∧ Blk (w.alloc (.cells #[.int .i64 0, .int .i64 keep, .int .i64 1, .int .i64 1] 27)) w.heap.size (.cells #[.int .i64 0, .int .i64 keep, .int .i64 1, .int .i64 1] 27)) := ⟨bW0 w _, heap_new w _⟩
  have hn0 : 0 ≤ now := by omega
  have hq0 : Hid (QuI now (-1) (⟨3, now, now, -1, now, 1, 1⟩ : Inst)) := by
    show QuI now (-1) (⟨3, now, now, -1, now, 1, 1⟩ : Inst)
    unfold QuI Inv
    simp only
    exact ⟨⟨⟨by omega, by omega⟩, ⟨hn0, Int.le_refl _⟩, ⟨hn0, Int.le_refl _⟩, .inr ⟨hn0, Int.le_refl _, by first | exact .inr rfl | simp⟩, by first | exact .inl rfl | simp⟩, by first | exact .inl ⟨rfl, rfl⟩ | simp⟩
  go_enter Try.func6, Try.ntmps6
  go_wp2
  generalize (w.alloc (.cells #[.int .i64 0, .int .i64 keep, .int .i64 1, .int .i64 1] 27)) = wv at *
  have ch0 : ∀ p : Gq.Out (Gq.growS wv.heap.size (⟨3, now, now, -1, now, 1, 1⟩ : Inst)) wv, p.W.cell? ⟨w.heap.size, 0, none⟩ = some (.int .i64 0) := fun p => (hd_cell (hw0.out.2.grow p.h.1)).1
  have ch1 : ∀ p : Gq.Out (Gq.growS wv.heap.size (⟨3, now, now, -1, now, 1, 1⟩ : Inst)) wv, p.W.cell? ⟨w.heap.size, 1, none⟩ = some (.int .i64 keep) := fun p => (hd_cell (hw0.out.2.grow p.h.1)).2.1
  have ch2 : ∀ p : Gq.Out (Gq.growS wv.heap.size (⟨3, now, now, -1, now, 1, 1⟩ : Inst)) wv, p.W.cell? ⟨w.heap.size, 2, none⟩ = some (.int .i64 1) := fun p => (hd_cell (hw0.out.2.grow p.h.1)).2.2.1
  have ch3 : ∀ p : Gq.Out (Gq.growS wv.heap.size (⟨3, now, now, -1, now, 1, 1⟩ : Inst)) wv, p.W.cell? ⟨w.heap.size, 3, none⟩ = some (.int .i64 1) := fun p => (hd_cell (hw0.out.2.grow p.h.1)).2.2.2
  refine Gq.wp_region_grow (Gq.growS wv.heap.size (⟨3, now, now, -1, now, 1, 1⟩ : Inst)) (Gq.growS_of (Nat.le_refl _) (Below.refl _ _).drew) (fun i => match i with | 1 => some (fun _ u _ => u = .agg #[.int .i64 1, .int .i64 now, .int .i64 (-1), .int .i64 (-1), .int .i64 now, .int .i64 2, .int .i64 0]) | 3 => some (fun _ u _ => u = .agg #[.int .i64 1, .int .i64 1]) | 5 => some (fun _ u _ => u = .agg #[.int .i64 3, .int .i64 now, .int .i64 now, .int .i64 (-1), .int .i64 now, .int .i64 1, .int .i64 1]) | 6 => some (fun _ u W => Gq.BoxS wv.heap.size (⟨3, now, now, -1, now, 1, 1⟩ : Inst) u W) | 7 => some (fun vs _ W => Gq.DoneS wv.heap.size (⟨3, now, now, -1, now, 1, 1⟩ : Inst) vs W) | _ => none) ?_ (by kernel_rfl) (by kernel_rfl) ?_
  · intro i s hs vs v W W' h g
    dsimp only at hs; split at hs <;> cases hs <;> first | exact h | exact Gq.BoxS.keep h g | exact Gq.DoneS.keep h g
  refine Gq.wpG_pure rfl rfl rfl rfl (fun KK hK => ?_); go_big_quiet_op; refine hK _ ?_; clear hK KK
  refine Gq.wpG_call (.agg #[.int .i64 1, .int .i64 now, .int .i64 (-1), .int .i64 (-1), .int .i64 now, .int .i64 2, .int .i64 0]) rfl rfl rfl (fun W hW => ?_) (fun KK hK => ?_)
  · refine Gq.tell_fn #[.int .i64 now] rfl (by simp [Act.eval]) Try.func13 (by kernel_rfl) (by kernel_rfl) ?_
    refine (hnew.out W).mono ?_
    rintro e w' ⟨h1, h2⟩
    exact ⟨_, h1, Gq.growS_of (Gq.growS_size (Nat.le_refl _) hW.1.gw) h2, rfl⟩
  go_big_quiet_op; refine hK _ ?_; clear hK KK
  refine Gq.wpG_pure rfl rfl rfl rfl (fun KK hK => ?_); go_big_quiet_op; refine hK _ ?_; clear hK KK
  refine Gq.wpG_call (.agg #[.int .i64 1, .int .i64 1]) rfl rfl rfl (fun W hW => ?_) (fun KK hK => ?_)
  · refine Gq.tell_fn #[.int .i64 1] rfl (by simp [Act.eval]) Try.func20 (by kernel_rfl) (by kernel_rfl) ?_
    refine (hnum.out W).mono ?_
    rintro e w' ⟨h1, h2⟩
    exact ⟨_, h1, Gq.growS_of (Gq.growS_size (Nat.le_refl _) hW.1.gw) h2, rfl⟩
  go_big_quiet_op; refine hK _ ?_; clear hK KK
  refine Gq.wpG_pure rfl rfl rfl rfl (fun KK hK => ?_); go_big_quiet_op; refine hK _ ?_; clear hK KK
  refine Gq.wpG_call (.agg #[.int .i64 3, .int .i64 now, .int .i64 now, .int .i64 (-1), .int .i64 now, .int .i64 1, .int .i64 1]) rfl rfl rfl (fun W hW => ?_) (fun KK hK => ?_)
  · refine Gq.tell_fn #[.agg #[.int .i64 1, .int .i64 now, .int .i64 (-1), .int .i64 (-1), .int .i64 now, .int .i64 2, .int .i64 0], .agg #[.int .i64 0, .int .i64 keep, .int .i64 1, .int .i64 1], .int .i64 2, .agg #[.int .i64 1, .int .i64 1], .int .i64 now] rfl (by simp [Act.eval]) Try.func17 (by kernel_rfl) (by kernel_rfl) ?_
    refine (hfst.out W).mono ?_
    rintro e w' ⟨h1, h2⟩
    exact ⟨_, h1, Gq.growS_of (Gq.growS_size (Nat.le_refl _) hW.1.gw) h2, rfl⟩
  go_big_quiet_op; refine hK _ ?_; clear hK KK
  refine Gq.wpG_tell _ rfl rfl rfl rfl (fun W hW => ?_) (fun xa hxa KK hK => ?_)
  · exact Gq.tell_run (.pointer (some ⟨W.heap.size, 0, none⟩)) (W.alloc (.cells #[.int .i64 0, .int .i64 0, .int .i64 0, .int .i64 0, .int .i64 0, .int .i64 0, .int .i64 0] 25)) (by go_simp) (Gq.growS_of (Gq.growS_size (Nat.le_refl _) hW.1.gw) ((Below.refl _ _).alloc (Nat.le_refl _) _)) (Gq.box_new W (Gq.growS_size (Nat.le_refl _) hW.1.gw) (⟨3, now, now, -1, now, 1, 1⟩ : Inst))
  go_big_quiet_op; refine hK _ ?_; clear hK KK
  refine Gq.wpG_tell #[xa, .agg #[.int .i64 3, .int .i64 now, .int .i64 now, .int .i64 (-1), .int .i64 now, .int .i64 1, .int .i64 1]] rfl rfl rfl (by simp [Op.operands, Act.eval]) (fun W hW => ?_) (fun xs hxs KK hK => ?_)
  · obtain ⟨yb, hyb, rfl, hv⟩ := (hW.2 6 _ rfl (by kernel_rfl)).2 rfl
    refine Gq.tell_skip (set7 W yb (⟨3, now, now, -1, now, 1, 1⟩ : Inst)) ?_ (Gq.store_R hyb hv) (Gq.store_done _ hyb rfl hv)
    rcases hv with hv | hv
    · obtain ⟨v0, v1, v2, v3, v4, v5, v6⟩ := hv.cells
      obtain ⟨u0, u1, u2, u3, u4, u5, u6⟩ := hv.frozen
      go_simp
    · obtain ⟨v0, v1, v2, v3, v4, v5, v6⟩ := hv.cells
      obtain ⟨u0, u1, u2, u3, u4, u5, u6⟩ := hv.frozen
      go_simp
  go_big_quiet_op; refine hK _ ?_; clear hK KK
  refine Gq.wpG_nil (fun W' hW hF => ?_)
  obtain ⟨bt, hbt, he, hbv⟩ := (hF 7).2 rfl
  have he := Option.some.inj he
  subst he
  have hb2 : Below wv.heap.size wv W' := hW.gw.1
  clear hF hW
  have hT0 : Hid (LpJ w W' w.heap.size bt 0 keep 1 1 (⟨3, now, now, -1, now, 1, 1⟩ : Inst)) := ⟨hbv, hw0.out.2.grow hb2, hw0.out.1.trans (hb2.mono hw0.out.1.size), Nat.le_refl _, Nat.ne_of_lt (Nat.lt_of_lt_of_le hw0.out.2.lt hbt), Nat.le_trans hw0.out.1.size hbt⟩
  clear ch0 ch1 ch2 ch3 hfst hnew hw0 hb2 hbt hbv
  generalize bt = g at *
  generalize W' = wl at *
  have p0 := hT0.out.1.cells.1
  go_wp2
  clear p0
  go_loopw [1, 11, 12] (fun nwv qvv i wr => ∃ k : Nat, ∃ nw qv : Int, ∃ X : Inst, k ≤ n ∧ nwv = .int .i64 nw ∧ qvv = .int .i64 qv ∧ i = .int .i64 k ∧ (0 ≤ nw ∧ nw ≤ now + k * 1000000) ∧ Hid (QuI nw qv X) ∧ Hid (LpJ w wr w.heap.size g 0 keep 1 1 X)) (fun _ _ i _ => n - (intOf i).toNat)
  case atStart => exact ⟨0, now, -1, (⟨3, now, now, -1, now, 1, 1⟩ : Inst), Nat.zero_le _, rfl, rfl, rfl, ⟨by omega, by omega⟩, hq0, hT0⟩
  case round =>
    obtain ⟨k, nw, qv, X, hk, rfl, rfl, rfl, ⟨hw1, hw2⟩, hQ, hJ⟩ := hrel
    clear hT0 hq0
    have hB : Hid (Below w.heap.size w wr) := hJ.out.2.2.1
    by_cases hlt : k < n
    · have hki : (k : Int) < (n : Int) := by omega
      obtain ⟨b, oo, rfl, x0⟩ := in_at (hgl.out wr hB.out) k (by rw [← hn.out]; exact hlt)
      generalize l.getD k 0 = d at *
      by_cases hd0 : d < 0
      · go_wp2_with (first | (go_at_call 9; refine (hlive _).mono ?_; rintro e w2 ⟨rfl, hb2⟩; have hE2 : Hid (Below w.heap.size w w2) := hB.out.trans (hb2.mono hB.out.size)))
        go_ret
        exact ⟨rfl, hE2.out⟩
      by_cases hd1 : 1000000 < d
      · go_wp2_with (first | (go_at_call 9; refine (hlive _).mono ?_; rintro e w2 ⟨rfl, hb2⟩; have hE2 : Hid (Below w.heap.size w w2) := hB.out.trans (hb2.mono hB.out.size)))
        go_ret
        exact ⟨rfl, hE2.out⟩
      have hbig : nw ≤ 700000000000 := by
        have : (k : Int) ≤ 100 := by omega
        omega
      have hnw2 : nw + d ≤ now + ((k + 1 : Nat) : Int) * 1000000 := by push_cast; omega
      have hlo : -9223372036854775808 ≤ nw + d ∧ nw + d ≤ 9223372036854775807 := by omega
      replace hw2 : Hid (nw ≤ now + k * 1000000) := hw2
      replace hnw2 : Hid (nw + d ≤ now + ((k + 1 : Nat) : Int) * 1000000) := hnw2
      by_cases hag : (k : Int) = again
      · have hag2 : ((k : Int) == again) = true := by simpa using hag
        have hst : Hid (∀ W, Calls Try.prog 17 #[.agg #[.int .i64 X.st, .int .i64 X.since, .int .i64 X.fr, .int .i64 X.quiet, .int .i64 X.seen, .int .i64 X.vk, .int .i64 X.vn], .agg #[.int .i64 0, .int .i64 keep, .int .i64 1, .int .i64 1], .int .i64 2, .agg #[.int .i64 1, .int .i64 1], .int .i64 (nw + d)] W fun e w' => e = .returned (encI (stepI X ⟨0, keep, 1, 1⟩ 2 1 1 (nw + d))) ∧ Below W.heap.size W w') := fun W => step17 X ⟨0, keep, 1, 1⟩ 2 1 1 (nw + d) W (hQ.out.1.hf (by omega) (by omega)) (hQ.out.1.hq (by omega) (by omega))
        have hq2 := quiet_again hQ.out (keep := keep) (show nw ≤ nw + d by omega)
        generalize stepI X ⟨0, keep, 1, 1⟩ 2 1 1 (nw + d) = y at *
        obtain ⟨hq3, hys, hyq⟩ := hq2
        replace hq3 : Hid (QuI (nw + d) (-1) y) := hq3
        clear hag
        obtain ⟨y1, y2, y3, y4, y5, y6, y7⟩ := y
        simp only at hys hyq
        subst hys hyq
        replace hst : Hid (∀ W, Calls Try.prog 17 #[.agg #[.int .i64 X.st, .int .i64 X.since, .int .i64 X.fr, .int .i64 X.quiet, .int .i64 X.seen, .int .i64 X.vk, .int .i64 X.vn], .agg #[.int .i64 0, .int .i64 keep, .int .i64 1, .int .i64 1], .int .i64 2, .agg #[.int .i64 1, .int .i64 1], .int .i64 (nw + d)] W fun e w' => e = .returned (.agg #[.int .i64 3, .int .i64 y2, .int .i64 y3, .int .i64 (-1), .int .i64 y5, .int .i64 y6, .int .i64 y7]) ∧ Below W.heap.size W w') := hst
        go_wp2
        have cx0 : ∀ p : Bel wr, p.W.cell? ⟨g, 0, none⟩ = some (.int .i64 X.st) := fun p => (((hJ.out.grow p.h).1).cells).1
        have cx1 : ∀ p : Bel wr, p.W.cell? ⟨g, 1, none⟩ = some (.int .i64 X.since) := fun p => (((hJ.out.grow p.h).1).cells).2.1
        have cx2 : ∀ p : Bel wr, p.W.cell? ⟨g, 2, none⟩ = some (.int .i64 X.fr) := fun p => (((hJ.out.grow p.h).1).cells).2.2.1
        have cx3 : ∀ p : Bel wr, p.W.cell? ⟨g, 3, none⟩ = some (.int .i64 X.quiet) := fun p => (((hJ.out.grow p.h).1).cells).2.2.2.1
        have cx4 : ∀ p : Bel wr, p.W.cell? ⟨g, 4, none⟩ = some (.int .i64 X.seen) := fun p => (((hJ.out.grow p.h).1).cells).2.2.2.2.1
        have cx5 : ∀ p : Bel wr, p.W.cell? ⟨g, 5, none⟩ = some (.int .i64 X.vk) := fun p => (((hJ.out.grow p.h).1).cells).2.2.2.2.2.1
        have cx6 : ∀ p : Bel wr, p.W.cell? ⟨g, 6, none⟩ = some (.int .i64 X.vn) := fun p => (((hJ.out.grow p.h).1).cells).2.2.2.2.2.2
        have ch0 : ∀ p : Bel wr, p.W.cell? ⟨w.heap.size, 0, none⟩ = some (.int .i64 0) := fun p => (hd_cell (hJ.out.grow p.h).2.1).1
        have ch1 : ∀ p : Bel wr, p.W.cell? ⟨w.heap.size, 1, none⟩ = some (.int .i64 keep) := fun p => (hd_cell (hJ.out.grow p.h).2.1).2.1
        have ch2 : ∀ p : Bel wr, p.W.cell? ⟨w.heap.size, 2, none⟩ = some (.int .i64 1) := fun p => (hd_cell (hJ.out.grow p.h).2.1).2.2.1
        have ch3 : ∀ p : Bel wr, p.W.cell? ⟨w.heap.size, 3, none⟩ = some (.int .i64 1) := fun p => (hd_cell (hJ.out.grow p.h).2.1).2.2.2
        have k20 : ∀ p : Bel wr, Calls Try.prog 20 #[.int .i64 1] p.W fun e w' => e = .returned (.agg #[.int .i64 1, .int .i64 1]) ∧ Below p.W.heap.size p.W w' := fun p => hnum.out p.W
        have k17 : ∀ p : Bel wr, Calls Try.prog 17 #[.agg #[.int .i64 X.st, .int .i64 X.since, .int .i64 X.fr, .int .i64 X.quiet, .int .i64 X.seen, .int .i64 X.vk, .int .i64 X.vn], .agg #[.int .i64 0, .int .i64 keep, .int .i64 1, .int .i64 1], .int .i64 2, .agg #[.int .i64 1, .int .i64 1], .int .i64 (nw + d)] p.W fun e w' => e = .returned (.agg #[.int .i64 3, .int .i64 y2, .int .i64 y3, .int .i64 (-1), .int .i64 y5, .int .i64 y6, .int .i64 y7]) ∧ Below p.W.heap.size p.W w' := fun p => hst.out p.W
        refine Yquiettail.region_tail (C := fun W => ∃ p : Bel wr, W = p.W) 5 (by kernel_rfl) (by kernel_rfl) ⟨⟨wr.drew, (Below.refl _ _).drew⟩, rfl⟩ ?_
        dsimp only [List.take, List.drop]
        repeat (go_big_quiet_step (first | (go_at_call 20; exact Calls.bel (k20 _)) | (go_at_call 17; exact Calls.bel (k17 _))))
        refine wpQuiet_nil ?_
        rintro w5 ⟨⟨wz, h5⟩, rfl⟩
        replace h5 : Below wr.heap.size wr w5 := h5
        clear cx0 cx1 cx2 cx3 cx4 cx5 cx6 ch0 ch1 ch2 ch3 k20 k17 hst
        have hJ5 : Hid (LpJ w w5 w.heap.size g 0 keep 1 1 X) := hJ.out.grow h5
        have hJ6 : Hid (LpJ w ((((((((w5.setCell ⟨g, 0, none⟩ (.int .i64 3)).setCell ⟨g, 1, none⟩ (.int .i64 y2)).setCell ⟨g, 2, none⟩ (.int .i64 y3)).setCell ⟨g, 3, none⟩ (.int .i64 (-1))).setCell ⟨g, 4, none⟩ (.int .i64 y5)).setCell ⟨g, 5, none⟩ (.int .i64 y6)).setCell ⟨g, 6, none⟩ (.int .i64 y7))) w.heap.size g 0 keep 1 1 (⟨3, y2, y3, (-1), y5, y6, y7⟩ : Inst)) := LpJ.set (W := w5) (g := g) (Y := (⟨3, y2, y3, (-1), y5, y6, y7⟩ : Inst)) hJ5.out
        obtain ⟨f0, f1, f2, f3, f4, f5, f6⟩ := hJ5.out.1.frozen
        obtain ⟨p0, p1, p2, p3, p4, p5, p6⟩ := hJ5.out.1.cells
        have hB6 : Hid (Below w.heap.size w ((((((((w5.setCell ⟨g, 0, none⟩ (.int .i64 3)).setCell ⟨g, 1, none⟩ (.int .i64 y2)).setCell ⟨g, 2, none⟩ (.int .i64 y3)).setCell ⟨g, 3, none⟩ (.int .i64 (-1))).setCell ⟨g, 4, none⟩ (.int .i64 y5)).setCell ⟨g, 5, none⟩ (.int .i64 y6)).setCell ⟨g, 6, none⟩ (.int .i64 y7)))) := hJ6.out.2.2.1
        clear h5
        go_wp2
        go_roundw
        case rel => exact ⟨k + 1, nw + d, -1, (⟨3, y2, y3, -1, y5, y6, y7⟩ : Inst), by omega, rfl, rfl, by go_num, ⟨by omega, hnw2.out⟩, hq3, hJ6⟩
        case measure => simp [intOf]; omega
      · have hag2 : ((k : Int) == again) = false := by simpa using hag
        clear hag
        by_cases h1 : X.st = 1
        · have xst := hJ.out.1.cells.1
          rw [h1] at xst
          have hst : Hid (∀ W, Calls Try.prog 17 #[.agg #[.int .i64 X.st, .int .i64 X.since, .int .i64 X.fr, .int .i64 X.quiet, .int .i64 X.seen, .int .i64 X.vk, .int .i64 X.vn], .agg #[.int .i64 0, .int .i64 keep, .int .i64 1, .int .i64 1], .int .i64 1, .agg #[.int .i64 1, .int .i64 0], .int .i64 (nw + d)] W fun e w' => e = .returned (encI (stepI X ⟨0, keep, 1, 1⟩ 1 1 0 (nw + d))) ∧ Below W.heap.size W w') := fun W => step17 X ⟨0, keep, 1, 1⟩ 1 1 0 (nw + d) W (hQ.out.1.hf (by omega) (by omega)) (hQ.out.1.hq (by omega) (by omega))
          have hy1 := quiet_norm (keep := keep) (nw := nw) (nw' := nw + d) h1
          generalize stepI X ⟨0, keep, 1, 1⟩ 1 1 0 (nw + d) = y at *
          have hys := hy1
          clear hy1
          replace h1 : Hid (X.st = 1) := h1
          obtain ⟨y1, y2, y3, y4, y5, y6, y7⟩ := y
          simp only at hys
          subst hys
          replace hst : Hid (∀ W, Calls Try.prog 17 #[.agg #[.int .i64 X.st, .int .i64 X.since, .int .i64 X.fr, .int .i64 X.quiet, .int .i64 X.seen, .int .i64 X.vk, .int .i64 X.vn], .agg #[.int .i64 0, .int .i64 keep, .int .i64 1, .int .i64 1], .int .i64 1, .agg #[.int .i64 1, .int .i64 0], .int .i64 (nw + d)] W fun e w' => e = .returned (.agg #[.int .i64 1, .int .i64 y2, .int .i64 y3, .int .i64 y4, .int .i64 y5, .int .i64 y6, .int .i64 y7]) ∧ Below W.heap.size W w') := hst
          go_wp2
          have cx0 : ∀ p : Bel wr, p.W.cell? ⟨g, 0, none⟩ = some (.int .i64 X.st) := fun p => (((hJ.out.grow p.h).1).cells).1
          have cx1 : ∀ p : Bel wr, p.W.cell? ⟨g, 1, none⟩ = some (.int .i64 X.since) := fun p => (((hJ.out.grow p.h).1).cells).2.1
          have cx2 : ∀ p : Bel wr, p.W.cell? ⟨g, 2, none⟩ = some (.int .i64 X.fr) := fun p => (((hJ.out.grow p.h).1).cells).2.2.1
          have cx3 : ∀ p : Bel wr, p.W.cell? ⟨g, 3, none⟩ = some (.int .i64 X.quiet) := fun p => (((hJ.out.grow p.h).1).cells).2.2.2.1
          have cx4 : ∀ p : Bel wr, p.W.cell? ⟨g, 4, none⟩ = some (.int .i64 X.seen) := fun p => (((hJ.out.grow p.h).1).cells).2.2.2.2.1
          have cx5 : ∀ p : Bel wr, p.W.cell? ⟨g, 5, none⟩ = some (.int .i64 X.vk) := fun p => (((hJ.out.grow p.h).1).cells).2.2.2.2.2.1
          have cx6 : ∀ p : Bel wr, p.W.cell? ⟨g, 6, none⟩ = some (.int .i64 X.vn) := fun p => (((hJ.out.grow p.h).1).cells).2.2.2.2.2.2
          have ch0 : ∀ p : Bel wr, p.W.cell? ⟨w.heap.size, 0, none⟩ = some (.int .i64 0) := fun p => (hd_cell (hJ.out.grow p.h).2.1).1
          have ch1 : ∀ p : Bel wr, p.W.cell? ⟨w.heap.size, 1, none⟩ = some (.int .i64 keep) := fun p => (hd_cell (hJ.out.grow p.h).2.1).2.1
          have ch2 : ∀ p : Bel wr, p.W.cell? ⟨w.heap.size, 2, none⟩ = some (.int .i64 1) := fun p => (hd_cell (hJ.out.grow p.h).2.1).2.2.1
          have ch3 : ∀ p : Bel wr, p.W.cell? ⟨w.heap.size, 3, none⟩ = some (.int .i64 1) := fun p => (hd_cell (hJ.out.grow p.h).2.1).2.2.2
          have k20 : ∀ p : Bel wr, Calls Try.prog 20 #[.int .i64 0] p.W fun e w' => e = .returned (.agg #[.int .i64 1, .int .i64 0]) ∧ Below p.W.heap.size p.W w' := fun p => hnum0.out p.W
          have k17 : ∀ p : Bel wr, Calls Try.prog 17 #[.agg #[.int .i64 X.st, .int .i64 X.since, .int .i64 X.fr, .int .i64 X.quiet, .int .i64 X.seen, .int .i64 X.vk, .int .i64 X.vn], .agg #[.int .i64 0, .int .i64 keep, .int .i64 1, .int .i64 1], .int .i64 1, .agg #[.int .i64 1, .int .i64 0], .int .i64 (nw + d)] p.W fun e w' => e = .returned (.agg #[.int .i64 1, .int .i64 y2, .int .i64 y3, .int .i64 y4, .int .i64 y5, .int .i64 y6, .int .i64 y7]) ∧ Below p.W.heap.size p.W w' := fun p => hst.out p.W
          refine Yquiettail.region_tail (C := fun W => ∃ p : Bel wr, W = p.W) 5 (by kernel_rfl) (by kernel_rfl) ⟨⟨wr.drew, (Below.refl _ _).drew⟩, rfl⟩ ?_
          dsimp only [List.take, List.drop]
          repeat (go_big_quiet_step (first | (go_at_call 20; exact Calls.bel (k20 _)) | (go_at_call 17; exact Calls.bel (k17 _))))
          refine wpQuiet_nil ?_
          rintro w5 ⟨⟨wz, h5⟩, rfl⟩
          replace h5 : Below wr.heap.size wr w5 := h5
          clear cx0 cx1 cx2 cx3 cx4 cx5 cx6 ch0 ch1 ch2 ch3 k20 k17 hst
          have hJ5 : Hid (LpJ w w5 w.heap.size g 0 keep 1 1 X) := hJ.out.grow h5
          have hJ6 : Hid (LpJ w ((((((((w5.setCell ⟨g, 0, none⟩ (.int .i64 1)).setCell ⟨g, 1, none⟩ (.int .i64 y2)).setCell ⟨g, 2, none⟩ (.int .i64 y3)).setCell ⟨g, 3, none⟩ (.int .i64 y4)).setCell ⟨g, 4, none⟩ (.int .i64 y5)).setCell ⟨g, 5, none⟩ (.int .i64 y6)).setCell ⟨g, 6, none⟩ (.int .i64 y7))) w.heap.size g 0 keep 1 1 (⟨1, y2, y3, y4, y5, y6, y7⟩ : Inst)) := LpJ.set (W := w5) (g := g) (Y := (⟨1, y2, y3, y4, y5, y6, y7⟩ : Inst)) hJ5.out
          obtain ⟨f0, f1, f2, f3, f4, f5, f6⟩ := hJ5.out.1.frozen
          obtain ⟨p0, p1, p2, p3, p4, p5, p6⟩ := hJ5.out.1.cells
          have hB6 : Hid (Below w.heap.size w ((((((((w5.setCell ⟨g, 0, none⟩ (.int .i64 1)).setCell ⟨g, 1, none⟩ (.int .i64 y2)).setCell ⟨g, 2, none⟩ (.int .i64 y3)).setCell ⟨g, 3, none⟩ (.int .i64 y4)).setCell ⟨g, 4, none⟩ (.int .i64 y5)).setCell ⟨g, 5, none⟩ (.int .i64 y6)).setCell ⟨g, 6, none⟩ (.int .i64 y7)))) := hJ6.out.2.2.1
          clear h5
          go_wp2_with (first | (go_at_call 9; refine (hlive _).mono ?_; rintro e w7 ⟨rfl, hb7⟩; have hE2 : Hid (Below w.heap.size w w7) := hB6.out.trans (hb7.mono hB6.out.size)))
          go_ret
          exact ⟨rfl, hE2.out⟩
        · have h3 : X.st = 3 := by
            rcases hQ.out.2 with h9 | h9
            · exact h9.1
            · exact absurd h9 h1
          have xst := hJ.out.1.cells.1
          rw [h3] at xst
          by_cases hqn : qv < 0
          · have hqe : (nw + d) = if qv < 0 then nw + d else qv := by rw [if_pos hqn]
            have hqb : -9223372036854775808 ≤ nw + d - (nw + d) ∧ nw + d - (nw + d) ≤ 9223372036854775807 := by
              have hi := hQ.out
              unfold QuI Inv at hi
              omega
            by_cases hkz : keep = 0
            · have hkz2 : (keep == 0) = true := by simpa using hkz
              have hst : Hid (∀ W, Calls Try.prog 17 #[.agg #[.int .i64 X.st, .int .i64 X.since, .int .i64 X.fr, .int .i64 X.quiet, .int .i64 X.seen, .int .i64 X.vk, .int .i64 X.vn], .agg #[.int .i64 0, .int .i64 keep, .int .i64 1, .int .i64 1], .int .i64 1, .agg #[.int .i64 1, .int .i64 0], .int .i64 (nw + d)] W fun e w' => e = .returned (encI (stepI X ⟨0, keep, 1, 1⟩ 1 1 0 (nw + d))) ∧ Below W.heap.size W w') := fun W => step17 X ⟨0, keep, 1, 1⟩ 1 1 0 (nw + d) W (hQ.out.1.hf (by omega) (by omega)) (hQ.out.1.hq (by omega) (by omega))
              have hq2 := quiet_goes hQ.out h3 (keep := keep) (show nw ≤ nw + d by omega) (by omega) (nw + d) hqe
              generalize stepI X ⟨0, keep, 1, 1⟩ 1 1 0 (nw + d) = y at *
              obtain ⟨hq3, hys⟩ := hq2
              replace hq3 : Hid (QuI (nw + d) (nw + d) y) := hq3
              rw [if_pos (.inl hkz)] at hys
              clear h1 hqe
              replace h3 : Hid (X.st = 3) := h3
              replace hkz : Hid (keep = 0) := hkz
              obtain ⟨y1, y2, y3, y4, y5, y6, y7⟩ := y
              simp only at hys
              subst hys
              replace hst : Hid (∀ W, Calls Try.prog 17 #[.agg #[.int .i64 X.st, .int .i64 X.since, .int .i64 X.fr, .int .i64 X.quiet, .int .i64 X.seen, .int .i64 X.vk, .int .i64 X.vn], .agg #[.int .i64 0, .int .i64 keep, .int .i64 1, .int .i64 1], .int .i64 1, .agg #[.int .i64 1, .int .i64 0], .int .i64 (nw + d)] W fun e w' => e = .returned (.agg #[.int .i64 1, .int .i64 y2, .int .i64 y3, .int .i64 y4, .int .i64 y5, .int .i64 y6, .int .i64 y7]) ∧ Below W.heap.size W w') := hst
              go_wp2
              have cx0 : ∀ p : Bel wr, p.W.cell? ⟨g, 0, none⟩ = some (.int .i64 X.st) := fun p => (((hJ.out.grow p.h).1).cells).1
              have cx1 : ∀ p : Bel wr, p.W.cell? ⟨g, 1, none⟩ = some (.int .i64 X.since) := fun p => (((hJ.out.grow p.h).1).cells).2.1
              have cx2 : ∀ p : Bel wr, p.W.cell? ⟨g, 2, none⟩ = some (.int .i64 X.fr) := fun p => (((hJ.out.grow p.h).1).cells).2.2.1
              have cx3 : ∀ p : Bel wr, p.W.cell? ⟨g, 3, none⟩ = some (.int .i64 X.quiet) := fun p => (((hJ.out.grow p.h).1).cells).2.2.2.1
              have cx4 : ∀ p : Bel wr, p.W.cell? ⟨g, 4, none⟩ = some (.int .i64 X.seen) := fun p => (((hJ.out.grow p.h).1).cells).2.2.2.2.1
              have cx5 : ∀ p : Bel wr, p.W.cell? ⟨g, 5, none⟩ = some (.int .i64 X.vk) := fun p => (((hJ.out.grow p.h).1).cells).2.2.2.2.2.1
              have cx6 : ∀ p : Bel wr, p.W.cell? ⟨g, 6, none⟩ = some (.int .i64 X.vn) := fun p => (((hJ.out.grow p.h).1).cells).2.2.2.2.2.2
              have ch0 : ∀ p : Bel wr, p.W.cell? ⟨w.heap.size, 0, none⟩ = some (.int .i64 0) := fun p => (hd_cell (hJ.out.grow p.h).2.1).1
              have ch1 : ∀ p : Bel wr, p.W.cell? ⟨w.heap.size, 1, none⟩ = some (.int .i64 keep) := fun p => (hd_cell (hJ.out.grow p.h).2.1).2.1
              have ch2 : ∀ p : Bel wr, p.W.cell? ⟨w.heap.size, 2, none⟩ = some (.int .i64 1) := fun p => (hd_cell (hJ.out.grow p.h).2.1).2.2.1
              have ch3 : ∀ p : Bel wr, p.W.cell? ⟨w.heap.size, 3, none⟩ = some (.int .i64 1) := fun p => (hd_cell (hJ.out.grow p.h).2.1).2.2.2
              have k20 : ∀ p : Bel wr, Calls Try.prog 20 #[.int .i64 0] p.W fun e w' => e = .returned (.agg #[.int .i64 1, .int .i64 0]) ∧ Below p.W.heap.size p.W w' := fun p => hnum0.out p.W
              have k17 : ∀ p : Bel wr, Calls Try.prog 17 #[.agg #[.int .i64 X.st, .int .i64 X.since, .int .i64 X.fr, .int .i64 X.quiet, .int .i64 X.seen, .int .i64 X.vk, .int .i64 X.vn], .agg #[.int .i64 0, .int .i64 keep, .int .i64 1, .int .i64 1], .int .i64 1, .agg #[.int .i64 1, .int .i64 0], .int .i64 (nw + d)] p.W fun e w' => e = .returned (.agg #[.int .i64 1, .int .i64 y2, .int .i64 y3, .int .i64 y4, .int .i64 y5, .int .i64 y6, .int .i64 y7]) ∧ Below p.W.heap.size p.W w' := fun p => hst.out p.W
              refine Yquiettail.region_tail (C := fun W => ∃ p : Bel wr, W = p.W) 5 (by kernel_rfl) (by kernel_rfl) ⟨⟨wr.drew, (Below.refl _ _).drew⟩, rfl⟩ ?_
              dsimp only [List.take, List.drop]
              repeat (go_big_quiet_step (first | (go_at_call 20; exact Calls.bel (k20 _)) | (go_at_call 17; exact Calls.bel (k17 _))))
              refine wpQuiet_nil ?_
              rintro w5 ⟨⟨wz, h5⟩, rfl⟩
              replace h5 : Below wr.heap.size wr w5 := h5
              clear cx0 cx1 cx2 cx3 cx4 cx5 cx6 ch0 ch1 ch2 ch3 k20 k17 hst
              have hJ5 : Hid (LpJ w w5 w.heap.size g 0 keep 1 1 X) := hJ.out.grow h5
              have hJ6 : Hid (LpJ w ((((((((w5.setCell ⟨g, 0, none⟩ (.int .i64 1)).setCell ⟨g, 1, none⟩ (.int .i64 y2)).setCell ⟨g, 2, none⟩ (.int .i64 y3)).setCell ⟨g, 3, none⟩ (.int .i64 y4)).setCell ⟨g, 4, none⟩ (.int .i64 y5)).setCell ⟨g, 5, none⟩ (.int .i64 y6)).setCell ⟨g, 6, none⟩ (.int .i64 y7))) w.heap.size g 0 keep 1 1 (⟨1, y2, y3, y4, y5, y6, y7⟩ : Inst)) := LpJ.set (W := w5) (g := g) (Y := (⟨1, y2, y3, y4, y5, y6, y7⟩ : Inst)) hJ5.out
              obtain ⟨f0, f1, f2, f3, f4, f5, f6⟩ := hJ5.out.1.frozen
              obtain ⟨p0, p1, p2, p3, p4, p5, p6⟩ := hJ5.out.1.cells
              have hB6 : Hid (Below w.heap.size w ((((((((w5.setCell ⟨g, 0, none⟩ (.int .i64 1)).setCell ⟨g, 1, none⟩ (.int .i64 y2)).setCell ⟨g, 2, none⟩ (.int .i64 y3)).setCell ⟨g, 3, none⟩ (.int .i64 y4)).setCell ⟨g, 4, none⟩ (.int .i64 y5)).setCell ⟨g, 5, none⟩ (.int .i64 y6)).setCell ⟨g, 6, none⟩ (.int .i64 y7)))) := hJ6.out.2.2.1
              clear h5
              go_wp2
              go_roundw
              case rel => exact ⟨k + 1, nw + d, (nw + d), (⟨1, y2, y3, y4, y5, y6, y7⟩ : Inst), by omega, rfl, rfl, by go_num, ⟨by omega, hnw2.out⟩, hq3, hJ6⟩
              case measure => simp [intOf]; omega
            · have hkz2 : (keep == 0) = false := by simpa using hkz
              by_cases hkc : keep ≤ nw + d - (nw + d)
              · have hst : Hid (∀ W, Calls Try.prog 17 #[.agg #[.int .i64 X.st, .int .i64 X.since, .int .i64 X.fr, .int .i64 X.quiet, .int .i64 X.seen, .int .i64 X.vk, .int .i64 X.vn], .agg #[.int .i64 0, .int .i64 keep, .int .i64 1, .int .i64 1], .int .i64 1, .agg #[.int .i64 1, .int .i64 0], .int .i64 (nw + d)] W fun e w' => e = .returned (encI (stepI X ⟨0, keep, 1, 1⟩ 1 1 0 (nw + d))) ∧ Below W.heap.size W w') := fun W => step17 X ⟨0, keep, 1, 1⟩ 1 1 0 (nw + d) W (hQ.out.1.hf (by omega) (by omega)) (hQ.out.1.hq (by omega) (by omega))
                have hq2 := quiet_goes hQ.out h3 (keep := keep) (show nw ≤ nw + d by omega) (by omega) (nw + d) hqe
                generalize stepI X ⟨0, keep, 1, 1⟩ 1 1 0 (nw + d) = y at *
                obtain ⟨hq3, hys⟩ := hq2
                replace hq3 : Hid (QuI (nw + d) (nw + d) y) := hq3
                rw [if_pos (.inr hkc)] at hys
                clear h1 hqe
                replace h3 : Hid (X.st = 3) := h3
                replace hkz : Hid (¬ keep = 0) := hkz
                obtain ⟨y1, y2, y3, y4, y5, y6, y7⟩ := y
                simp only at hys
                subst hys
                replace hst : Hid (∀ W, Calls Try.prog 17 #[.agg #[.int .i64 X.st, .int .i64 X.since, .int .i64 X.fr, .int .i64 X.quiet, .int .i64 X.seen, .int .i64 X.vk, .int .i64 X.vn], .agg #[.int .i64 0, .int .i64 keep, .int .i64 1, .int .i64 1], .int .i64 1, .agg #[.int .i64 1, .int .i64 0], .int .i64 (nw + d)] W fun e w' => e = .returned (.agg #[.int .i64 1, .int .i64 y2, .int .i64 y3, .int .i64 y4, .int .i64 y5, .int .i64 y6, .int .i64 y7]) ∧ Below W.heap.size W w') := hst
                go_wp2
                have cx0 : ∀ p : Bel wr, p.W.cell? ⟨g, 0, none⟩ = some (.int .i64 X.st) := fun p => (((hJ.out.grow p.h).1).cells).1
                have cx1 : ∀ p : Bel wr, p.W.cell? ⟨g, 1, none⟩ = some (.int .i64 X.since) := fun p => (((hJ.out.grow p.h).1).cells).2.1
                have cx2 : ∀ p : Bel wr, p.W.cell? ⟨g, 2, none⟩ = some (.int .i64 X.fr) := fun p => (((hJ.out.grow p.h).1).cells).2.2.1
                have cx3 : ∀ p : Bel wr, p.W.cell? ⟨g, 3, none⟩ = some (.int .i64 X.quiet) := fun p => (((hJ.out.grow p.h).1).cells).2.2.2.1
                have cx4 : ∀ p : Bel wr, p.W.cell? ⟨g, 4, none⟩ = some (.int .i64 X.seen) := fun p => (((hJ.out.grow p.h).1).cells).2.2.2.2.1
                have cx5 : ∀ p : Bel wr, p.W.cell? ⟨g, 5, none⟩ = some (.int .i64 X.vk) := fun p => (((hJ.out.grow p.h).1).cells).2.2.2.2.2.1
                have cx6 : ∀ p : Bel wr, p.W.cell? ⟨g, 6, none⟩ = some (.int .i64 X.vn) := fun p => (((hJ.out.grow p.h).1).cells).2.2.2.2.2.2
                have ch0 : ∀ p : Bel wr, p.W.cell? ⟨w.heap.size, 0, none⟩ = some (.int .i64 0) := fun p => (hd_cell (hJ.out.grow p.h).2.1).1
                have ch1 : ∀ p : Bel wr, p.W.cell? ⟨w.heap.size, 1, none⟩ = some (.int .i64 keep) := fun p => (hd_cell (hJ.out.grow p.h).2.1).2.1
                have ch2 : ∀ p : Bel wr, p.W.cell? ⟨w.heap.size, 2, none⟩ = some (.int .i64 1) := fun p => (hd_cell (hJ.out.grow p.h).2.1).2.2.1
                have ch3 : ∀ p : Bel wr, p.W.cell? ⟨w.heap.size, 3, none⟩ = some (.int .i64 1) := fun p => (hd_cell (hJ.out.grow p.h).2.1).2.2.2
                have k20 : ∀ p : Bel wr, Calls Try.prog 20 #[.int .i64 0] p.W fun e w' => e = .returned (.agg #[.int .i64 1, .int .i64 0]) ∧ Below p.W.heap.size p.W w' := fun p => hnum0.out p.W
                have k17 : ∀ p : Bel wr, Calls Try.prog 17 #[.agg #[.int .i64 X.st, .int .i64 X.since, .int .i64 X.fr, .int .i64 X.quiet, .int .i64 X.seen, .int .i64 X.vk, .int .i64 X.vn], .agg #[.int .i64 0, .int .i64 keep, .int .i64 1, .int .i64 1], .int .i64 1, .agg #[.int .i64 1, .int .i64 0], .int .i64 (nw + d)] p.W fun e w' => e = .returned (.agg #[.int .i64 1, .int .i64 y2, .int .i64 y3, .int .i64 y4, .int .i64 y5, .int .i64 y6, .int .i64 y7]) ∧ Below p.W.heap.size p.W w' := fun p => hst.out p.W
                refine Yquiettail.region_tail (C := fun W => ∃ p : Bel wr, W = p.W) 5 (by kernel_rfl) (by kernel_rfl) ⟨⟨wr.drew, (Below.refl _ _).drew⟩, rfl⟩ ?_
                dsimp only [List.take, List.drop]
                repeat (go_big_quiet_step (first | (go_at_call 20; exact Calls.bel (k20 _)) | (go_at_call 17; exact Calls.bel (k17 _))))
                refine wpQuiet_nil ?_
                rintro w5 ⟨⟨wz, h5⟩, rfl⟩
                replace h5 : Below wr.heap.size wr w5 := h5
                clear cx0 cx1 cx2 cx3 cx4 cx5 cx6 ch0 ch1 ch2 ch3 k20 k17 hst
                have hJ5 : Hid (LpJ w w5 w.heap.size g 0 keep 1 1 X) := hJ.out.grow h5
                have hJ6 : Hid (LpJ w ((((((((w5.setCell ⟨g, 0, none⟩ (.int .i64 1)).setCell ⟨g, 1, none⟩ (.int .i64 y2)).setCell ⟨g, 2, none⟩ (.int .i64 y3)).setCell ⟨g, 3, none⟩ (.int .i64 y4)).setCell ⟨g, 4, none⟩ (.int .i64 y5)).setCell ⟨g, 5, none⟩ (.int .i64 y6)).setCell ⟨g, 6, none⟩ (.int .i64 y7))) w.heap.size g 0 keep 1 1 (⟨1, y2, y3, y4, y5, y6, y7⟩ : Inst)) := LpJ.set (W := w5) (g := g) (Y := (⟨1, y2, y3, y4, y5, y6, y7⟩ : Inst)) hJ5.out
                obtain ⟨f0, f1, f2, f3, f4, f5, f6⟩ := hJ5.out.1.frozen
                obtain ⟨p0, p1, p2, p3, p4, p5, p6⟩ := hJ5.out.1.cells
                have hB6 : Hid (Below w.heap.size w ((((((((w5.setCell ⟨g, 0, none⟩ (.int .i64 1)).setCell ⟨g, 1, none⟩ (.int .i64 y2)).setCell ⟨g, 2, none⟩ (.int .i64 y3)).setCell ⟨g, 3, none⟩ (.int .i64 y4)).setCell ⟨g, 4, none⟩ (.int .i64 y5)).setCell ⟨g, 5, none⟩ (.int .i64 y6)).setCell ⟨g, 6, none⟩ (.int .i64 y7)))) := hJ6.out.2.2.1
                clear h5
                go_wp2
                go_roundw
                case rel => exact ⟨k + 1, nw + d, (nw + d), (⟨1, y2, y3, y4, y5, y6, y7⟩ : Inst), by omega, rfl, rfl, by go_num, ⟨by omega, hnw2.out⟩, hq3, hJ6⟩
                case measure => simp [intOf]; omega
              · have hst : Hid (∀ W, Calls Try.prog 17 #[.agg #[.int .i64 X.st, .int .i64 X.since, .int .i64 X.fr, .int .i64 X.quiet, .int .i64 X.seen, .int .i64 X.vk, .int .i64 X.vn], .agg #[.int .i64 0, .int .i64 keep, .int .i64 1, .int .i64 1], .int .i64 1, .agg #[.int .i64 1, .int .i64 0], .int .i64 (nw + d)] W fun e w' => e = .returned (encI (stepI X ⟨0, keep, 1, 1⟩ 1 1 0 (nw + d))) ∧ Below W.heap.size W w') := fun W => step17 X ⟨0, keep, 1, 1⟩ 1 1 0 (nw + d) W (hQ.out.1.hf (by omega) (by omega)) (hQ.out.1.hq (by omega) (by omega))
                have hq2 := quiet_goes hQ.out h3 (keep := keep) (show nw ≤ nw + d by omega) (by omega) (nw + d) hqe
                generalize stepI X ⟨0, keep, 1, 1⟩ 1 1 0 (nw + d) = y at *
                obtain ⟨hq3, hys⟩ := hq2
                replace hq3 : Hid (QuI (nw + d) (nw + d) y) := hq3
                rw [if_neg (fun e => e.elim hkz hkc)] at hys
                clear h1 hqe
                replace h3 : Hid (X.st = 3) := h3
                replace hkz : Hid (¬ keep = 0) := hkz
                obtain ⟨y1, y2, y3, y4, y5, y6, y7⟩ := y
                simp only at hys
                subst hys
                replace hst : Hid (∀ W, Calls Try.prog 17 #[.agg #[.int .i64 X.st, .int .i64 X.since, .int .i64 X.fr, .int .i64 X.quiet, .int .i64 X.seen, .int .i64 X.vk, .int .i64 X.vn], .agg #[.int .i64 0, .int .i64 keep, .int .i64 1, .int .i64 1], .int .i64 1, .agg #[.int .i64 1, .int .i64 0], .int .i64 (nw + d)] W fun e w' => e = .returned (.agg #[.int .i64 3, .int .i64 y2, .int .i64 y3, .int .i64 y4, .int .i64 y5, .int .i64 y6, .int .i64 y7]) ∧ Below W.heap.size W w') := hst
                go_wp2
                have cx0 : ∀ p : Bel wr, p.W.cell? ⟨g, 0, none⟩ = some (.int .i64 X.st) := fun p => (((hJ.out.grow p.h).1).cells).1
                have cx1 : ∀ p : Bel wr, p.W.cell? ⟨g, 1, none⟩ = some (.int .i64 X.since) := fun p => (((hJ.out.grow p.h).1).cells).2.1
                have cx2 : ∀ p : Bel wr, p.W.cell? ⟨g, 2, none⟩ = some (.int .i64 X.fr) := fun p => (((hJ.out.grow p.h).1).cells).2.2.1
                have cx3 : ∀ p : Bel wr, p.W.cell? ⟨g, 3, none⟩ = some (.int .i64 X.quiet) := fun p => (((hJ.out.grow p.h).1).cells).2.2.2.1
                have cx4 : ∀ p : Bel wr, p.W.cell? ⟨g, 4, none⟩ = some (.int .i64 X.seen) := fun p => (((hJ.out.grow p.h).1).cells).2.2.2.2.1
                have cx5 : ∀ p : Bel wr, p.W.cell? ⟨g, 5, none⟩ = some (.int .i64 X.vk) := fun p => (((hJ.out.grow p.h).1).cells).2.2.2.2.2.1
                have cx6 : ∀ p : Bel wr, p.W.cell? ⟨g, 6, none⟩ = some (.int .i64 X.vn) := fun p => (((hJ.out.grow p.h).1).cells).2.2.2.2.2.2
                have ch0 : ∀ p : Bel wr, p.W.cell? ⟨w.heap.size, 0, none⟩ = some (.int .i64 0) := fun p => (hd_cell (hJ.out.grow p.h).2.1).1
                have ch1 : ∀ p : Bel wr, p.W.cell? ⟨w.heap.size, 1, none⟩ = some (.int .i64 keep) := fun p => (hd_cell (hJ.out.grow p.h).2.1).2.1
                have ch2 : ∀ p : Bel wr, p.W.cell? ⟨w.heap.size, 2, none⟩ = some (.int .i64 1) := fun p => (hd_cell (hJ.out.grow p.h).2.1).2.2.1
                have ch3 : ∀ p : Bel wr, p.W.cell? ⟨w.heap.size, 3, none⟩ = some (.int .i64 1) := fun p => (hd_cell (hJ.out.grow p.h).2.1).2.2.2
                have k20 : ∀ p : Bel wr, Calls Try.prog 20 #[.int .i64 0] p.W fun e w' => e = .returned (.agg #[.int .i64 1, .int .i64 0]) ∧ Below p.W.heap.size p.W w' := fun p => hnum0.out p.W
                have k17 : ∀ p : Bel wr, Calls Try.prog 17 #[.agg #[.int .i64 X.st, .int .i64 X.since, .int .i64 X.fr, .int .i64 X.quiet, .int .i64 X.seen, .int .i64 X.vk, .int .i64 X.vn], .agg #[.int .i64 0, .int .i64 keep, .int .i64 1, .int .i64 1], .int .i64 1, .agg #[.int .i64 1, .int .i64 0], .int .i64 (nw + d)] p.W fun e w' => e = .returned (.agg #[.int .i64 3, .int .i64 y2, .int .i64 y3, .int .i64 y4, .int .i64 y5, .int .i64 y6, .int .i64 y7]) ∧ Below p.W.heap.size p.W w' := fun p => hst.out p.W
                refine Yquiettail.region_tail (C := fun W => ∃ p : Bel wr, W = p.W) 5 (by kernel_rfl) (by kernel_rfl) ⟨⟨wr.drew, (Below.refl _ _).drew⟩, rfl⟩ ?_
                dsimp only [List.take, List.drop]
                repeat (go_big_quiet_step (first | (go_at_call 20; exact Calls.bel (k20 _)) | (go_at_call 17; exact Calls.bel (k17 _))))
                refine wpQuiet_nil ?_
                rintro w5 ⟨⟨wz, h5⟩, rfl⟩
                replace h5 : Below wr.heap.size wr w5 := h5
                clear cx0 cx1 cx2 cx3 cx4 cx5 cx6 ch0 ch1 ch2 ch3 k20 k17 hst
                have hJ5 : Hid (LpJ w w5 w.heap.size g 0 keep 1 1 X) := hJ.out.grow h5
                have hJ6 : Hid (LpJ w ((((((((w5.setCell ⟨g, 0, none⟩ (.int .i64 3)).setCell ⟨g, 1, none⟩ (.int .i64 y2)).setCell ⟨g, 2, none⟩ (.int .i64 y3)).setCell ⟨g, 3, none⟩ (.int .i64 y4)).setCell ⟨g, 4, none⟩ (.int .i64 y5)).setCell ⟨g, 5, none⟩ (.int .i64 y6)).setCell ⟨g, 6, none⟩ (.int .i64 y7))) w.heap.size g 0 keep 1 1 (⟨3, y2, y3, y4, y5, y6, y7⟩ : Inst)) := LpJ.set (W := w5) (g := g) (Y := (⟨3, y2, y3, y4, y5, y6, y7⟩ : Inst)) hJ5.out
                obtain ⟨f0, f1, f2, f3, f4, f5, f6⟩ := hJ5.out.1.frozen
                obtain ⟨p0, p1, p2, p3, p4, p5, p6⟩ := hJ5.out.1.cells
                have hB6 : Hid (Below w.heap.size w ((((((((w5.setCell ⟨g, 0, none⟩ (.int .i64 3)).setCell ⟨g, 1, none⟩ (.int .i64 y2)).setCell ⟨g, 2, none⟩ (.int .i64 y3)).setCell ⟨g, 3, none⟩ (.int .i64 y4)).setCell ⟨g, 4, none⟩ (.int .i64 y5)).setCell ⟨g, 5, none⟩ (.int .i64 y6)).setCell ⟨g, 6, none⟩ (.int .i64 y7)))) := hJ6.out.2.2.1
                clear h5
                go_wp2
                go_roundw
                case rel => exact ⟨k + 1, nw + d, (nw + d), (⟨3, y2, y3, y4, y5, y6, y7⟩ : Inst), by omega, rfl, rfl, by go_num, ⟨by omega, hnw2.out⟩, hq3, hJ6⟩
                case measure => simp [intOf]; omega
          · have hqe : qv = if qv < 0 then nw + d else qv := by rw [if_neg hqn]
            have hqb : -9223372036854775808 ≤ nw + d - qv ∧ nw + d - qv ≤ 9223372036854775807 := by
              have hi := hQ.out
              unfold QuI Inv at hi
              omega
            by_cases hkz : keep = 0
            · have hkz2 : (keep == 0) = true := by simpa using hkz
              have hst : Hid (∀ W, Calls Try.prog 17 #[.agg #[.int .i64 X.st, .int .i64 X.since, .int .i64 X.fr, .int .i64 X.quiet, .int .i64 X.seen, .int .i64 X.vk, .int .i64 X.vn], .agg #[.int .i64 0, .int .i64 keep, .int .i64 1, .int .i64 1], .int .i64 1, .agg #[.int .i64 1, .int .i64 0], .int .i64 (nw + d)] W fun e w' => e = .returned (encI (stepI X ⟨0, keep, 1, 1⟩ 1 1 0 (nw + d))) ∧ Below W.heap.size W w') := fun W => step17 X ⟨0, keep, 1, 1⟩ 1 1 0 (nw + d) W (hQ.out.1.hf (by omega) (by omega)) (hQ.out.1.hq (by omega) (by omega))
              have hq2 := quiet_goes hQ.out h3 (keep := keep) (show nw ≤ nw + d by omega) (by omega) qv hqe
              generalize stepI X ⟨0, keep, 1, 1⟩ 1 1 0 (nw + d) = y at *
              obtain ⟨hq3, hys⟩ := hq2
              replace hq3 : Hid (QuI (nw + d) qv y) := hq3
              rw [if_pos (.inl hkz)] at hys
              clear h1 hqe
              replace h3 : Hid (X.st = 3) := h3
              replace hkz : Hid (keep = 0) := hkz
              obtain ⟨y1, y2, y3, y4, y5, y6, y7⟩ := y
              simp only at hys
              subst hys
              replace hst : Hid (∀ W, Calls Try.prog 17 #[.agg #[.int .i64 X.st, .int .i64 X.since, .int .i64 X.fr, .int .i64 X.quiet, .int .i64 X.seen, .int .i64 X.vk, .int .i64 X.vn], .agg #[.int .i64 0, .int .i64 keep, .int .i64 1, .int .i64 1], .int .i64 1, .agg #[.int .i64 1, .int .i64 0], .int .i64 (nw + d)] W fun e w' => e = .returned (.agg #[.int .i64 1, .int .i64 y2, .int .i64 y3, .int .i64 y4, .int .i64 y5, .int .i64 y6, .int .i64 y7]) ∧ Below W.heap.size W w') := hst
              go_wp2
              have cx0 : ∀ p : Bel wr, p.W.cell? ⟨g, 0, none⟩ = some (.int .i64 X.st) := fun p => (((hJ.out.grow p.h).1).cells).1
              have cx1 : ∀ p : Bel wr, p.W.cell? ⟨g, 1, none⟩ = some (.int .i64 X.since) := fun p => (((hJ.out.grow p.h).1).cells).2.1
              have cx2 : ∀ p : Bel wr, p.W.cell? ⟨g, 2, none⟩ = some (.int .i64 X.fr) := fun p => (((hJ.out.grow p.h).1).cells).2.2.1
              have cx3 : ∀ p : Bel wr, p.W.cell? ⟨g, 3, none⟩ = some (.int .i64 X.quiet) := fun p => (((hJ.out.grow p.h).1).cells).2.2.2.1
              have cx4 : ∀ p : Bel wr, p.W.cell? ⟨g, 4, none⟩ = some (.int .i64 X.seen) := fun p => (((hJ.out.grow p.h).1).cells).2.2.2.2.1
              have cx5 : ∀ p : Bel wr, p.W.cell? ⟨g, 5, none⟩ = some (.int .i64 X.vk) := fun p => (((hJ.out.grow p.h).1).cells).2.2.2.2.2.1
              have cx6 : ∀ p : Bel wr, p.W.cell? ⟨g, 6, none⟩ = some (.int .i64 X.vn) := fun p => (((hJ.out.grow p.h).1).cells).2.2.2.2.2.2
              have ch0 : ∀ p : Bel wr, p.W.cell? ⟨w.heap.size, 0, none⟩ = some (.int .i64 0) := fun p => (hd_cell (hJ.out.grow p.h).2.1).1
              have ch1 : ∀ p : Bel wr, p.W.cell? ⟨w.heap.size, 1, none⟩ = some (.int .i64 keep) := fun p => (hd_cell (hJ.out.grow p.h).2.1).2.1
              have ch2 : ∀ p : Bel wr, p.W.cell? ⟨w.heap.size, 2, none⟩ = some (.int .i64 1) := fun p => (hd_cell (hJ.out.grow p.h).2.1).2.2.1
              have ch3 : ∀ p : Bel wr, p.W.cell? ⟨w.heap.size, 3, none⟩ = some (.int .i64 1) := fun p => (hd_cell (hJ.out.grow p.h).2.1).2.2.2
              have k20 : ∀ p : Bel wr, Calls Try.prog 20 #[.int .i64 0] p.W fun e w' => e = .returned (.agg #[.int .i64 1, .int .i64 0]) ∧ Below p.W.heap.size p.W w' := fun p => hnum0.out p.W
              have k17 : ∀ p : Bel wr, Calls Try.prog 17 #[.agg #[.int .i64 X.st, .int .i64 X.since, .int .i64 X.fr, .int .i64 X.quiet, .int .i64 X.seen, .int .i64 X.vk, .int .i64 X.vn], .agg #[.int .i64 0, .int .i64 keep, .int .i64 1, .int .i64 1], .int .i64 1, .agg #[.int .i64 1, .int .i64 0], .int .i64 (nw + d)] p.W fun e w' => e = .returned (.agg #[.int .i64 1, .int .i64 y2, .int .i64 y3, .int .i64 y4, .int .i64 y5, .int .i64 y6, .int .i64 y7]) ∧ Below p.W.heap.size p.W w' := fun p => hst.out p.W
              refine Yquiettail.region_tail (C := fun W => ∃ p : Bel wr, W = p.W) 5 (by kernel_rfl) (by kernel_rfl) ⟨⟨wr.drew, (Below.refl _ _).drew⟩, rfl⟩ ?_
              dsimp only [List.take, List.drop]
              repeat (go_big_quiet_step (first | (go_at_call 20; exact Calls.bel (k20 _)) | (go_at_call 17; exact Calls.bel (k17 _))))
              refine wpQuiet_nil ?_
              rintro w5 ⟨⟨wz, h5⟩, rfl⟩
              replace h5 : Below wr.heap.size wr w5 := h5
              clear cx0 cx1 cx2 cx3 cx4 cx5 cx6 ch0 ch1 ch2 ch3 k20 k17 hst
              have hJ5 : Hid (LpJ w w5 w.heap.size g 0 keep 1 1 X) := hJ.out.grow h5
              have hJ6 : Hid (LpJ w ((((((((w5.setCell ⟨g, 0, none⟩ (.int .i64 1)).setCell ⟨g, 1, none⟩ (.int .i64 y2)).setCell ⟨g, 2, none⟩ (.int .i64 y3)).setCell ⟨g, 3, none⟩ (.int .i64 y4)).setCell ⟨g, 4, none⟩ (.int .i64 y5)).setCell ⟨g, 5, none⟩ (.int .i64 y6)).setCell ⟨g, 6, none⟩ (.int .i64 y7))) w.heap.size g 0 keep 1 1 (⟨1, y2, y3, y4, y5, y6, y7⟩ : Inst)) := LpJ.set (W := w5) (g := g) (Y := (⟨1, y2, y3, y4, y5, y6, y7⟩ : Inst)) hJ5.out
              obtain ⟨f0, f1, f2, f3, f4, f5, f6⟩ := hJ5.out.1.frozen
              obtain ⟨p0, p1, p2, p3, p4, p5, p6⟩ := hJ5.out.1.cells
              have hB6 : Hid (Below w.heap.size w ((((((((w5.setCell ⟨g, 0, none⟩ (.int .i64 1)).setCell ⟨g, 1, none⟩ (.int .i64 y2)).setCell ⟨g, 2, none⟩ (.int .i64 y3)).setCell ⟨g, 3, none⟩ (.int .i64 y4)).setCell ⟨g, 4, none⟩ (.int .i64 y5)).setCell ⟨g, 5, none⟩ (.int .i64 y6)).setCell ⟨g, 6, none⟩ (.int .i64 y7)))) := hJ6.out.2.2.1
              clear h5
              go_wp2
              go_roundw
              case rel => exact ⟨k + 1, nw + d, qv, (⟨1, y2, y3, y4, y5, y6, y7⟩ : Inst), by omega, rfl, rfl, by go_num, ⟨by omega, hnw2.out⟩, hq3, hJ6⟩
              case measure => simp [intOf]; omega
            · have hkz2 : (keep == 0) = false := by simpa using hkz
              by_cases hkc : keep ≤ nw + d - qv
              · have hst : Hid (∀ W, Calls Try.prog 17 #[.agg #[.int .i64 X.st, .int .i64 X.since, .int .i64 X.fr, .int .i64 X.quiet, .int .i64 X.seen, .int .i64 X.vk, .int .i64 X.vn], .agg #[.int .i64 0, .int .i64 keep, .int .i64 1, .int .i64 1], .int .i64 1, .agg #[.int .i64 1, .int .i64 0], .int .i64 (nw + d)] W fun e w' => e = .returned (encI (stepI X ⟨0, keep, 1, 1⟩ 1 1 0 (nw + d))) ∧ Below W.heap.size W w') := fun W => step17 X ⟨0, keep, 1, 1⟩ 1 1 0 (nw + d) W (hQ.out.1.hf (by omega) (by omega)) (hQ.out.1.hq (by omega) (by omega))
                have hq2 := quiet_goes hQ.out h3 (keep := keep) (show nw ≤ nw + d by omega) (by omega) qv hqe
                generalize stepI X ⟨0, keep, 1, 1⟩ 1 1 0 (nw + d) = y at *
                obtain ⟨hq3, hys⟩ := hq2
                replace hq3 : Hid (QuI (nw + d) qv y) := hq3
                rw [if_pos (.inr hkc)] at hys
                clear h1 hqe
                replace h3 : Hid (X.st = 3) := h3
                replace hkz : Hid (¬ keep = 0) := hkz
                obtain ⟨y1, y2, y3, y4, y5, y6, y7⟩ := y
                simp only at hys
                subst hys
                replace hst : Hid (∀ W, Calls Try.prog 17 #[.agg #[.int .i64 X.st, .int .i64 X.since, .int .i64 X.fr, .int .i64 X.quiet, .int .i64 X.seen, .int .i64 X.vk, .int .i64 X.vn], .agg #[.int .i64 0, .int .i64 keep, .int .i64 1, .int .i64 1], .int .i64 1, .agg #[.int .i64 1, .int .i64 0], .int .i64 (nw + d)] W fun e w' => e = .returned (.agg #[.int .i64 1, .int .i64 y2, .int .i64 y3, .int .i64 y4, .int .i64 y5, .int .i64 y6, .int .i64 y7]) ∧ Below W.heap.size W w') := hst
                go_wp2
                have cx0 : ∀ p : Bel wr, p.W.cell? ⟨g, 0, none⟩ = some (.int .i64 X.st) := fun p => (((hJ.out.grow p.h).1).cells).1
                have cx1 : ∀ p : Bel wr, p.W.cell? ⟨g, 1, none⟩ = some (.int .i64 X.since) := fun p => (((hJ.out.grow p.h).1).cells).2.1
                have cx2 : ∀ p : Bel wr, p.W.cell? ⟨g, 2, none⟩ = some (.int .i64 X.fr) := fun p => (((hJ.out.grow p.h).1).cells).2.2.1
                have cx3 : ∀ p : Bel wr, p.W.cell? ⟨g, 3, none⟩ = some (.int .i64 X.quiet) := fun p => (((hJ.out.grow p.h).1).cells).2.2.2.1
                have cx4 : ∀ p : Bel wr, p.W.cell? ⟨g, 4, none⟩ = some (.int .i64 X.seen) := fun p => (((hJ.out.grow p.h).1).cells).2.2.2.2.1
                have cx5 : ∀ p : Bel wr, p.W.cell? ⟨g, 5, none⟩ = some (.int .i64 X.vk) := fun p => (((hJ.out.grow p.h).1).cells).2.2.2.2.2.1
                have cx6 : ∀ p : Bel wr, p.W.cell? ⟨g, 6, none⟩ = some (.int .i64 X.vn) := fun p => (((hJ.out.grow p.h).1).cells).2.2.2.2.2.2
                have ch0 : ∀ p : Bel wr, p.W.cell? ⟨w.heap.size, 0, none⟩ = some (.int .i64 0) := fun p => (hd_cell (hJ.out.grow p.h).2.1).1
                have ch1 : ∀ p : Bel wr, p.W.cell? ⟨w.heap.size, 1, none⟩ = some (.int .i64 keep) := fun p => (hd_cell (hJ.out.grow p.h).2.1).2.1
                have ch2 : ∀ p : Bel wr, p.W.cell? ⟨w.heap.size, 2, none⟩ = some (.int .i64 1) := fun p => (hd_cell (hJ.out.grow p.h).2.1).2.2.1
                have ch3 : ∀ p : Bel wr, p.W.cell? ⟨w.heap.size, 3, none⟩ = some (.int .i64 1) := fun p => (hd_cell (hJ.out.grow p.h).2.1).2.2.2
                have k20 : ∀ p : Bel wr, Calls Try.prog 20 #[.int .i64 0] p.W fun e w' => e = .returned (.agg #[.int .i64 1, .int .i64 0]) ∧ Below p.W.heap.size p.W w' := fun p => hnum0.out p.W
                have k17 : ∀ p : Bel wr, Calls Try.prog 17 #[.agg #[.int .i64 X.st, .int .i64 X.since, .int .i64 X.fr, .int .i64 X.quiet, .int .i64 X.seen, .int .i64 X.vk, .int .i64 X.vn], .agg #[.int .i64 0, .int .i64 keep, .int .i64 1, .int .i64 1], .int .i64 1, .agg #[.int .i64 1, .int .i64 0], .int .i64 (nw + d)] p.W fun e w' => e = .returned (.agg #[.int .i64 1, .int .i64 y2, .int .i64 y3, .int .i64 y4, .int .i64 y5, .int .i64 y6, .int .i64 y7]) ∧ Below p.W.heap.size p.W w' := fun p => hst.out p.W
                refine Yquiettail.region_tail (C := fun W => ∃ p : Bel wr, W = p.W) 5 (by kernel_rfl) (by kernel_rfl) ⟨⟨wr.drew, (Below.refl _ _).drew⟩, rfl⟩ ?_
                dsimp only [List.take, List.drop]
                repeat (go_big_quiet_step (first | (go_at_call 20; exact Calls.bel (k20 _)) | (go_at_call 17; exact Calls.bel (k17 _))))
                refine wpQuiet_nil ?_
                rintro w5 ⟨⟨wz, h5⟩, rfl⟩
                replace h5 : Below wr.heap.size wr w5 := h5
                clear cx0 cx1 cx2 cx3 cx4 cx5 cx6 ch0 ch1 ch2 ch3 k20 k17 hst
                have hJ5 : Hid (LpJ w w5 w.heap.size g 0 keep 1 1 X) := hJ.out.grow h5
                have hJ6 : Hid (LpJ w ((((((((w5.setCell ⟨g, 0, none⟩ (.int .i64 1)).setCell ⟨g, 1, none⟩ (.int .i64 y2)).setCell ⟨g, 2, none⟩ (.int .i64 y3)).setCell ⟨g, 3, none⟩ (.int .i64 y4)).setCell ⟨g, 4, none⟩ (.int .i64 y5)).setCell ⟨g, 5, none⟩ (.int .i64 y6)).setCell ⟨g, 6, none⟩ (.int .i64 y7))) w.heap.size g 0 keep 1 1 (⟨1, y2, y3, y4, y5, y6, y7⟩ : Inst)) := LpJ.set (W := w5) (g := g) (Y := (⟨1, y2, y3, y4, y5, y6, y7⟩ : Inst)) hJ5.out
                obtain ⟨f0, f1, f2, f3, f4, f5, f6⟩ := hJ5.out.1.frozen
                obtain ⟨p0, p1, p2, p3, p4, p5, p6⟩ := hJ5.out.1.cells
                have hB6 : Hid (Below w.heap.size w ((((((((w5.setCell ⟨g, 0, none⟩ (.int .i64 1)).setCell ⟨g, 1, none⟩ (.int .i64 y2)).setCell ⟨g, 2, none⟩ (.int .i64 y3)).setCell ⟨g, 3, none⟩ (.int .i64 y4)).setCell ⟨g, 4, none⟩ (.int .i64 y5)).setCell ⟨g, 5, none⟩ (.int .i64 y6)).setCell ⟨g, 6, none⟩ (.int .i64 y7)))) := hJ6.out.2.2.1
                clear h5
                go_wp2
                go_roundw
                case rel => exact ⟨k + 1, nw + d, qv, (⟨1, y2, y3, y4, y5, y6, y7⟩ : Inst), by omega, rfl, rfl, by go_num, ⟨by omega, hnw2.out⟩, hq3, hJ6⟩
                case measure => simp [intOf]; omega
              · have hst : Hid (∀ W, Calls Try.prog 17 #[.agg #[.int .i64 X.st, .int .i64 X.since, .int .i64 X.fr, .int .i64 X.quiet, .int .i64 X.seen, .int .i64 X.vk, .int .i64 X.vn], .agg #[.int .i64 0, .int .i64 keep, .int .i64 1, .int .i64 1], .int .i64 1, .agg #[.int .i64 1, .int .i64 0], .int .i64 (nw + d)] W fun e w' => e = .returned (encI (stepI X ⟨0, keep, 1, 1⟩ 1 1 0 (nw + d))) ∧ Below W.heap.size W w') := fun W => step17 X ⟨0, keep, 1, 1⟩ 1 1 0 (nw + d) W (hQ.out.1.hf (by omega) (by omega)) (hQ.out.1.hq (by omega) (by omega))
                have hq2 := quiet_goes hQ.out h3 (keep := keep) (show nw ≤ nw + d by omega) (by omega) qv hqe
                generalize stepI X ⟨0, keep, 1, 1⟩ 1 1 0 (nw + d) = y at *
                obtain ⟨hq3, hys⟩ := hq2
                replace hq3 : Hid (QuI (nw + d) qv y) := hq3
                rw [if_neg (fun e => e.elim hkz hkc)] at hys
                clear h1 hqe
                replace h3 : Hid (X.st = 3) := h3
                replace hkz : Hid (¬ keep = 0) := hkz
                obtain ⟨y1, y2, y3, y4, y5, y6, y7⟩ := y
                simp only at hys
                subst hys
                replace hst : Hid (∀ W, Calls Try.prog 17 #[.agg #[.int .i64 X.st, .int .i64 X.since, .int .i64 X.fr, .int .i64 X.quiet, .int .i64 X.seen, .int .i64 X.vk, .int .i64 X.vn], .agg #[.int .i64 0, .int .i64 keep, .int .i64 1, .int .i64 1], .int .i64 1, .agg #[.int .i64 1, .int .i64 0], .int .i64 (nw + d)] W fun e w' => e = .returned (.agg #[.int .i64 3, .int .i64 y2, .int .i64 y3, .int .i64 y4, .int .i64 y5, .int .i64 y6, .int .i64 y7]) ∧ Below W.heap.size W w') := hst
                go_wp2
                have cx0 : ∀ p : Bel wr, p.W.cell? ⟨g, 0, none⟩ = some (.int .i64 X.st) := fun p => (((hJ.out.grow p.h).1).cells).1
                have cx1 : ∀ p : Bel wr, p.W.cell? ⟨g, 1, none⟩ = some (.int .i64 X.since) := fun p => (((hJ.out.grow p.h).1).cells).2.1
                have cx2 : ∀ p : Bel wr, p.W.cell? ⟨g, 2, none⟩ = some (.int .i64 X.fr) := fun p => (((hJ.out.grow p.h).1).cells).2.2.1
                have cx3 : ∀ p : Bel wr, p.W.cell? ⟨g, 3, none⟩ = some (.int .i64 X.quiet) := fun p => (((hJ.out.grow p.h).1).cells).2.2.2.1
                have cx4 : ∀ p : Bel wr, p.W.cell? ⟨g, 4, none⟩ = some (.int .i64 X.seen) := fun p => (((hJ.out.grow p.h).1).cells).2.2.2.2.1
                have cx5 : ∀ p : Bel wr, p.W.cell? ⟨g, 5, none⟩ = some (.int .i64 X.vk) := fun p => (((hJ.out.grow p.h).1).cells).2.2.2.2.2.1
                have cx6 : ∀ p : Bel wr, p.W.cell? ⟨g, 6, none⟩ = some (.int .i64 X.vn) := fun p => (((hJ.out.grow p.h).1).cells).2.2.2.2.2.2
                have ch0 : ∀ p : Bel wr, p.W.cell? ⟨w.heap.size, 0, none⟩ = some (.int .i64 0) := fun p => (hd_cell (hJ.out.grow p.h).2.1).1
                have ch1 : ∀ p : Bel wr, p.W.cell? ⟨w.heap.size, 1, none⟩ = some (.int .i64 keep) := fun p => (hd_cell (hJ.out.grow p.h).2.1).2.1
                have ch2 : ∀ p : Bel wr, p.W.cell? ⟨w.heap.size, 2, none⟩ = some (.int .i64 1) := fun p => (hd_cell (hJ.out.grow p.h).2.1).2.2.1
                have ch3 : ∀ p : Bel wr, p.W.cell? ⟨w.heap.size, 3, none⟩ = some (.int .i64 1) := fun p => (hd_cell (hJ.out.grow p.h).2.1).2.2.2
                have k20 : ∀ p : Bel wr, Calls Try.prog 20 #[.int .i64 0] p.W fun e w' => e = .returned (.agg #[.int .i64 1, .int .i64 0]) ∧ Below p.W.heap.size p.W w' := fun p => hnum0.out p.W
                have k17 : ∀ p : Bel wr, Calls Try.prog 17 #[.agg #[.int .i64 X.st, .int .i64 X.since, .int .i64 X.fr, .int .i64 X.quiet, .int .i64 X.seen, .int .i64 X.vk, .int .i64 X.vn], .agg #[.int .i64 0, .int .i64 keep, .int .i64 1, .int .i64 1], .int .i64 1, .agg #[.int .i64 1, .int .i64 0], .int .i64 (nw + d)] p.W fun e w' => e = .returned (.agg #[.int .i64 3, .int .i64 y2, .int .i64 y3, .int .i64 y4, .int .i64 y5, .int .i64 y6, .int .i64 y7]) ∧ Below p.W.heap.size p.W w' := fun p => hst.out p.W
                refine Yquiettail.region_tail (C := fun W => ∃ p : Bel wr, W = p.W) 5 (by kernel_rfl) (by kernel_rfl) ⟨⟨wr.drew, (Below.refl _ _).drew⟩, rfl⟩ ?_
                dsimp only [List.take, List.drop]
                repeat (go_big_quiet_step (first | (go_at_call 20; exact Calls.bel (k20 _)) | (go_at_call 17; exact Calls.bel (k17 _))))
                refine wpQuiet_nil ?_
                rintro w5 ⟨⟨wz, h5⟩, rfl⟩
                replace h5 : Below wr.heap.size wr w5 := h5
                clear cx0 cx1 cx2 cx3 cx4 cx5 cx6 ch0 ch1 ch2 ch3 k20 k17 hst
                have hJ5 : Hid (LpJ w w5 w.heap.size g 0 keep 1 1 X) := hJ.out.grow h5
                have hJ6 : Hid (LpJ w ((((((((w5.setCell ⟨g, 0, none⟩ (.int .i64 3)).setCell ⟨g, 1, none⟩ (.int .i64 y2)).setCell ⟨g, 2, none⟩ (.int .i64 y3)).setCell ⟨g, 3, none⟩ (.int .i64 y4)).setCell ⟨g, 4, none⟩ (.int .i64 y5)).setCell ⟨g, 5, none⟩ (.int .i64 y6)).setCell ⟨g, 6, none⟩ (.int .i64 y7))) w.heap.size g 0 keep 1 1 (⟨3, y2, y3, y4, y5, y6, y7⟩ : Inst)) := LpJ.set (W := w5) (g := g) (Y := (⟨3, y2, y3, y4, y5, y6, y7⟩ : Inst)) hJ5.out
                obtain ⟨f0, f1, f2, f3, f4, f5, f6⟩ := hJ5.out.1.frozen
                obtain ⟨p0, p1, p2, p3, p4, p5, p6⟩ := hJ5.out.1.cells
                have hB6 : Hid (Below w.heap.size w ((((((((w5.setCell ⟨g, 0, none⟩ (.int .i64 3)).setCell ⟨g, 1, none⟩ (.int .i64 y2)).setCell ⟨g, 2, none⟩ (.int .i64 y3)).setCell ⟨g, 3, none⟩ (.int .i64 y4)).setCell ⟨g, 4, none⟩ (.int .i64 y5)).setCell ⟨g, 5, none⟩ (.int .i64 y6)).setCell ⟨g, 6, none⟩ (.int .i64 y7)))) := hJ6.out.2.2.1
                clear h5
                go_wp2
                go_roundw
                case rel => exact ⟨k + 1, nw + d, qv, (⟨3, y2, y3, y4, y5, y6, y7⟩ : Inst), by omega, rfl, rfl, by go_num, ⟨by omega, hnw2.out⟩, hq3, hJ6⟩
                case measure => simp [intOf]; omega
    · obtain rfl : k = n := by omega
      have hki : ¬ (k : Int) < (k : Int) := by omega
      go_wp2_with (first | (go_at_call 9; refine (hlive _).mono ?_; rintro e w2 ⟨rfl, hb2⟩; have hE2 : Hid (Below w.heap.size w w2) := hB.out.trans (hb2.mono hB.out.size)))
      go_ret
      exact ⟨rfl, hE2.out⟩
/-! ### THE ROW's STEP -/
set_option maxRecDepth 100000 in
theorem lifted (os : Os) (started : os.Started) (H : Type) (enc : TypeId × Value → H) :
    ReturnsInHanded {} Try.checked os 6 .any (Rows.stateQuietSpec.pre6 enc Try.prog Try.f6 Rows.stateQuietRow.domain false) (Rows.stateQuietSpec.post enc Try.prog Try.f6 false true false false) := by
  refine returnsInHanded_of_change_sized (C := Try.checked) own started (by kernel_rfl) Try.func6
    (ChangeSpec.witness6 (enc := enc) (C := Try.checked) false ⟨#[], #[.int .i64 0, .int .i64 0, .slice none 0 0, .int .i64 0], []⟩ 8 (by kernel_rfl) (by kernel_rfl) (by kernel_rfl) (by kernel_rfl)) ?_
  intro W base args ds gs before hval0 hW hcnd hsz0 _
  have hsz : (DataW.weightsEach Try.prog (Try.f6.params.toList ++ Rows.stateQuietSpec.plain.varTypes Try.prog) (ds ++ gs)).all (· ≤ reachBytes) = true := hsz0
  have hval : ∀ (j : Nat) t v, Try.f6.params[j]? = some t → args[j]? = some v → Value.okWide Try.prog W .any base t v := hval0
  have hW' := hW
  obtain ⟨p, q, hA0, hV, rfl, hfz, hnd⟩ := hW
  have hA : DataW.TrodAll enc Try.prog W 0 (fun _ => true) true Try.f6.params.toList args.toList ds p := hA0
  rw [Try.params6] at hA hval hsz
  obtain ⟨v0, vs0, d0, ds0, p0, q0, hargs, rfl, rfl, h0, r0⟩ := trodAll_cons hA
  obtain ⟨v1, vs1, d1, ds1, p1, q1, rfl, rfl, rfl, h1, r1⟩ := trodAll_cons r0
  obtain ⟨v2, vs2, d2, ds2, p2, q2, rfl, rfl, rfl, h2, r2⟩ := trodAll_cons r1
  obtain ⟨v3, vs3, d3, ds3, p3, q3, rfl, rfl, rfl, h3, r3⟩ := trodAll_cons r2
  obtain ⟨rfl, rfl, rfl⟩ := trodAll_nil r3
  obtain rfl : args = #[v0, v1, v2, v3] := by cases args; simp_all
  obtain ⟨rfl, rfl⟩ := trodVars_none hV
  obtain ⟨x0, rfl, rfl, rfl, w0⟩ := open_int Try.underlying2 (hval 0 2 v0 rfl rfl) h0
  obtain ⟨x1, rfl, rfl, rfl, w1⟩ := open_int Try.underlying2 (hval 1 2 v1 rfl rfl) h1
  have k2 := h2
  have lt2 : ∀ x ∈ p2, x.block < W.heap.size := by obtain ⟨m, hm⟩ := k2; exact DataW.trod_lt m _ _ _ hm
  obtain ⟨a2, n2, c2, rfl⟩ := okWide_slice Try.underlying41 (hval 2 41 v2 rfl rfl)
  obtain ⟨l2, hP2, hR2, hL2⟩ : ∃ l, Ins W (.slice a2 n2 c2) l ∧ (∀ p ∈ l, I64 p) ∧ l.length ≤ 17592186043904 := by
    obtain ⟨fuel, hf⟩ := h2
    refine ints_of_trod hf (fun q hq => ?_)
    have := List.all_eq_true.1 hsz _ (DataW.weights_mem_each (j := 2) (t := 41) rfl rfl q hq)
    simpa using this
  obtain ⟨x3, rfl, rfl, rfl, w3⟩ := open_int Try.underlying3 (hval 3 3 v3 rfl rfl) h3
  clear hA0 hval0
  refine (walk x0 x1 (.slice a2 n2 c2) l2 x3 W (in64_of w0) (in64_of w1) hP2 hR2 hL2 (in64_of w3)).mono fun e W' ⟨he, bel⟩ => ?_
  subst he
  exact ⟨_, rfl, _, _, _, [], _, [], hW', trodAll_mk1 (shut_bool Try.underlying4 _), (trodAll_cons_mk (shut_int Try.underlying2 w0) (trodAll_cons_mk (shut_int Try.underlying2 w1) (trodAll_cons_mk (Below.trod laidOut (by kernel_rfl) (of_decide_eq_true (by kernel_rfl)) k2 bel lt2) (trodAll_cons_mk (shut_int Try.underlying3 w3) trodAll_mk0)))), rfl, bel.frame _, fun h => by cases h⟩
theorem over : Rows.stateQuietRow.holds Try.pinned (OpenSpec.ofChange Rows.stateQuietSpec) :=
  OpenClaim.holds_of_wide 6 Try.f6 rfl rfl rfl rfl rfl rfl rfl ⟨rfl, rfl, rfl, rfl, rfl⟩ rfl rfl rfl rfl rfl (by kernel_rfl) Try.func6 (by kernel_rfl)
    (of_decide_eq_true (by kernel_rfl)) (by unfold Func.isWrapper; first | (rw [if_pos (by decide +kernel)]; kernel_rfl) | (rw [if_neg (by decide +kernel)]; exact ⟨rfl, rfl⟩))
    (fun os started H enc _ => lifted os started H enc)
end Go.Proofs.Ytcfhpndoaiknhaa.stateQuiet
namespace Go.Proofs.Ytcfhpndoaiknhaa
/-- The statement. -/
theorem stateQuiet_holds : Rows.StateQuietSaid := stateQuiet.over
#print axioms stateQuiet_holds
end Go.Proofs.Ytcfhpndoaiknhaa
