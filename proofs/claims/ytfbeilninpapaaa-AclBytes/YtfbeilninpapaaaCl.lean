/- Check, areTeams, User; the document's Check and User. -/
import Derived.Test.YtfbeilninpapaaaCk
namespace Go.Proofs.Ytfbeilninpapaaa
set_option linter.unusedVariables false
open Go.RowKit
/-- The texts of grants are of a length that can be. -/
def GrR (l : List Gr) : Prop := ∀ g ∈ l, g.name.size ≤ 1000000000000000
/-- Two have one Kind and one Name. -/
def thB (l : List Gr) : Bool := (List.range l.length).any fun k => gvB (l.getD k gr0) (l.take k)
def thTo (l : List Gr) (k : Nat) : Prop := ∀ j, j < k → gvB (l.getD j gr0) (l.take j) = false
theorem thTo_succ {l : List Gr} {k : Nat} (h : thTo l k) (e : gvB (l.getD k gr0) (l.take k) = false) : thTo l (k + 1) := by
  intro j hj
  by_cases h2 : j = k
  · subst h2; exact e
  · exact h j (by omega)
theorem thB_no {l : List Gr} (h : thTo l l.length) : thB l = false := by
  unfold thB
  rw [List.any_eq_false]
  intro k hk
  have := h k (List.mem_range.1 hk)
  simpa using this
theorem thB_yes {l : List Gr} {k : Nat} (hk : k < l.length) (h : gvB (l.getD k gr0) (l.take k) = true) : thB l = true := by
  unfold thB
  rw [List.any_eq_true]
  exact ⟨k, List.mem_range.2 hk, h⟩
/-- Check. -/
def ckE (l : List Gr) : Int := if 16 < l.length then 6 else if l.all mbB then (if thB l then 8 else 0) else 150
theorem ckE_in (l : List Gr) : 0 ≤ ckE l ∧ ckE l ≤ 150 := by unfold ckE; split <;> (try split) <;> (try split) <;> omega
theorem ckE_no {l : List Gr} {k : Nat} (h16 : l.length ≤ 16) (hk : k < l.length) (h : mbB (l.getD k gr0) = false) : ckE l = 150 := by
  unfold ckE
  rw [if_neg (by omega), if_neg]
  intro e
  have := List.all_eq_true.1 e _ (getD_mem l gr0 k hk)
  rw [h] at this; cases this
theorem mb_take {l : List Gr} {k : Nat} (hk : k < l.length) (h : (l.take k).all mbB = true) (h2 : mbB (l.getD k gr0) = true) : (l.take (k + 1)).all mbB = true := by
  rw [take_getD l gr0 k hk, List.all_append, h, List.all_cons, h2]
  rfl
theorem elem25 : Try.prog.underlying 25 = some (.slice (Try.prog.elem 25)) := by kernel_rfl
theorem size25 (W : World) : (sizeOf (Try.prog.elem 25)).run Try.prog W = .ok 3 W := by kernel_rfl
/-- l[:k]. -/
theorem grs_to {w : World} {v : Value} {l : List Gr} (hv : Grs w v l) (k : Nat) (hk : k ≤ l.length) :
    ∃ v2, (∀ W, (Instr.slice 25 v none (some (.int .i64 (k : Int))) none).run Try.prog W = .ok v2 W) ∧ Grs w v2 (l.take k) := by
  obtain ⟨a, c, rfl, ⟨hn, hc⟩, h1⟩ := hv
  refine ⟨sliced a 0 k c 3, fun W => ?_, ⟨if c = 0 then a else a.map (·.add (0 * 3)), c - 0, by simp only [sliced, List.length_take, Nat.min_eq_left hk, Nat.sub_zero], ⟨fun e => ?_, by simp; omega⟩, ?_⟩⟩
  · rw [run_slice_h W 25 a l.length c elem25 .i64 k (by omega) (by omega), size25]; simp [Result.andThen]
  · by_cases h : c = 0
    · omega
    · rw [if_neg h] at e
      simp at e; have := hn e; omega
  · rcases h1 with rfl | ⟨b, o, rfl, hr⟩
    · exact .inl (by simp)
    · by_cases h : k = 0
      · exact .inl (by simp [h])
      · refine .inr ⟨b, o, ?_, fun t ht => ?_⟩
        · rw [if_neg (by omega)]; simp [add_at]
        · rw [List.length_take] at ht
          have := hr t (by omega)
          rw [show (l.take k).getD t eGr.d = l.getD t eGr.d by rw [List.getD_eq_getElem?_getD, List.getD_eq_getElem?_getD, List.getElem?_take_of_lt (by omega)]]
          exact this
set_option maxRecDepth 100000 in
set_option maxHeartbeats 4000000 in
/-- acl.Check. -/
theorem check_any (v : Value) (l : List Gr) (w : World) (hv : Grs w v l) (hl : l.length ≤ 1000000000000000) (hr : GrR l) :
    Calls Try.prog 10 #[v] w fun e w' => e = .returned (.int .i64 (ckE l)) ∧ Below w.heap.size w w' := by
  obtain ⟨a2, c2, rfl⟩ := hv.shape
  by_cases h16 : 16 < l.length
  · have hR : Hid (ckE l = 6) := by show _ = _; unfold ckE; rw [if_pos h16]
    have h16i : (16 : Int) < (l.length : Int) := by omega
    clear hv
    go_enter Try.func10, Try.ntmps10
    go_wp2
    go_ret
    exact ⟨by rw [hR.out]; rfl, Below.refl _ _⟩
  · have h16i : ¬ (16 : Int) < (l.length : Int) := by omega
    have hvk : Hid (∀ W, Below w.heap.size w W → Grs W (.slice a2 l.length c2) l) := fun W h => hv.grow h
    replace hr : Hid (GrR l) := hr
    clear hv
    go_enter Try.func10, Try.ntmps10
    go_wp2
    go_loopw [12] (fun i wr => ∃ k : Nat, k ≤ l.length ∧ i = .int .i64 k ∧ Hid ((l.take k).all mbB = true) ∧ Hid (Below w.heap.size w wr)) (fun i _ => l.length - (intOf i).toNat)
    case atStart => exact ⟨0, Nat.zero_le _, rfl, rfl, Below.refl _ _⟩
    case round =>
      obtain ⟨k, hk, rfl, hto, hB⟩ := hrel
      have hbz := hB.out.size
      by_cases hlt : k < l.length
      · have hki : (k : Int) < (l.length : Int) := by omega
        obtain ⟨b, o, rfl, x0, x1, x2⟩ := gr_at (hvk.out wr hB.out) k hlt
        have hM := fun g : Gr => fun h => mayBe_any g (wr.alloc (.cells #[.int .i64 g.kind, .string g.name, .int .i64 g.level] 52)) h
        replace hM := hM (l.getD k gr0) (hr.out _ (getD_mem l gr0 k hlt))
        have hyes : Hid (mbB (l.getD k gr0) = true → (l.take (k + 1)).all mbB = true) := fun h => mb_take hlt hto.out h
        have hnot : Hid (mbB (l.getD k gr0) = false → ckE l = 150) := fun h => ckE_no (by omega) hlt h
        have hBa : Hid (∀ o', Below w.heap.size w (wr.alloc o')) := fun o' => hB.out.alloc hbz _
        generalize l.getD k gr0 = g at *
        obtain ⟨gk, gm, gl⟩ := g
        simp only at x0 x1 x2 hM
        cases hm : mbB ⟨gk, gm, gl⟩ with
        | true =>
          rw [hm] at hM
          have hst : Hid ((l.take (k + 1)).all mbB = true) := hyes.out hm
          clear hm hyes hnot
          go_wp2_with (first | (go_at_call 22; refine hM.mono ?_; rintro e wx ⟨rfl, hwx⟩))
          refine ⟨⟨k + 1, by omega, by go_num, hst, (hBa.out _).trans (hwx.mono (by simp; omega))⟩, ?_⟩
          simp [intOf]; omega
        | false =>
          rw [hm] at hM
          have hst : Hid (ckE l = 150) := hnot.out hm
          clear hm hyes hnot
          go_wp2_with (first | (go_at_call 22; refine hM.mono ?_; rintro e wx ⟨rfl, hwx⟩))
          go_ret
          exact ⟨by rw [hst.out]; rfl, (hBa.out _).trans (hwx.mono (by simp; omega))⟩
      · obtain rfl : l.length = k := by omega
        have hki : ¬ (l.length : Int) < (l.length : Int) := by omega
        have hall : Hid (l.all mbB = true) := by
          have := hto.out
          rw [List.take_of_length_le (Nat.le_refl _)] at this
          exact this
        clear hto
        obtain ⟨wo, rfl⟩ : ∃ wo, wo = wr := ⟨_, rfl⟩
        go_wp2
        go_loopw [22] (fun i wr => ∃ k : Nat, k ≤ l.length ∧ i = .int .i64 k ∧ Hid (thTo l k) ∧ Hid (Below w.heap.size w wr)) (fun i _ => l.length - (intOf i).toNat)
        case atStart => exact ⟨0, Nat.zero_le _, rfl, (fun j hj => absurd hj (Nat.not_lt_zero _)), hB⟩
        case round =>
          clear hB hbz
          obtain ⟨k, hk, rfl, hto, hB⟩ := hrel
          have hbz := hB.out.size
          by_cases hlt : k < l.length
          · have hki : (k : Int) < (l.length : Int) := by omega
            obtain ⟨v2, hsl, hv2⟩ := grs_to (hvk.out wr hB.out) k (by omega)
            have hlen2 : (l.take k).length ≤ 1000000000000000 := by rw [List.length_take]; omega
            obtain ⟨b, o, rfl, x0, x1, x2⟩ := gr_at (hvk.out wr hB.out) k hlt
            have hG : Hid (∀ g W, Below wr.heap.size wr W → Calls Try.prog 23 #[.agg #[.int .i64 g.kind, .string g.name, .int .i64 g.level], v2] W fun e w' => e = .returned (.bool (gvB g (l.take k))) ∧ Below W.heap.size W w') := fun g W h => isGiven_any g v2 (l.take k) W (hv2.grow h) hlen2
            have hyes : Hid (gvB (l.getD k gr0) (l.take k) = true → ckE l = 8) := fun h => by
              unfold ckE
              rw [if_neg h16, hall.out, if_pos rfl, thB_yes hlt h, if_pos rfl]
            have hnot : Hid (gvB (l.getD k gr0) (l.take k) = false → thTo l (k + 1)) := fun h => thTo_succ hto.out h
            have hG1 := hG.out (l.getD k gr0)
            generalize l.getD k gr0 = g at *
            obtain ⟨gk, gm, gl⟩ := g
            simp only at x0 x1 x2 hG1
            have hbox : Below wr.heap.size wr (wr.alloc (.cells #[.int .i64 gk, .string gm, .int .i64 gl] 52)) := (Below.refl _ _).alloc (Nat.le_refl _) _
            have hBa := hB.out.trans (hbox.mono hbz)
            have hG2 : ∀ p : Bel (wr.alloc (.cells #[.int .i64 gk, .string gm, .int .i64 gl] 52)), Calls Try.prog 23 #[.agg #[.int .i64 gk, .string gm, .int .i64 gl], v2] p.W fun e w' => e = .returned (.bool (gvB ⟨gk, gm, gl⟩ (l.take k))) ∧ Below p.W.heap.size p.W w' := fun p => hG1 p.W (hbox.trans (p.h.mono hbox.size))
            have c0 : ∀ p : Bel (wr.alloc (.cells #[.int .i64 gk, .string gm, .int .i64 gl] 52)), p.W.cell? ⟨wr.heap.size, 0, none⟩ = some (.int .i64 gk) := fun p => p.cell (by simp)
            have c1 : ∀ p : Bel (wr.alloc (.cells #[.int .i64 gk, .string gm, .int .i64 gl] 52)), p.W.cell? ⟨wr.heap.size, 1, none⟩ = some (.string gm) := fun p => p.cell (by simp)
            have c2' : ∀ p : Bel (wr.alloc (.cells #[.int .i64 gk, .string gm, .int .i64 gl] 52)), p.W.cell? ⟨wr.heap.size, 2, none⟩ = some (.int .i64 gl) := fun p => p.cell (by simp)
            replace hB : Hid _ := hB.out
            replace hBa : Hid (Below w.heap.size w (wr.alloc (.cells #[.int .i64 gk, .string gm, .int .i64 gl] 52))) := hBa
            clear hG hG1 hbox hv2
            cases hm : gvB ⟨gk, gm, gl⟩ (l.take k) with
            | true =>
              rw [hm] at hG2
              have hst : Hid (ckE l = 8) := hyes.out hm
              clear hm hyes hnot
              go_wp2
              refine wp_region_bel (by kernel_rfl) (by kernel_rfl) ?_
              repeat (go_big_quiet_step (first | (go_at_call 23; exact Calls.bel (hG2 _))))
              refine wpQuiet_nil ?_
              rintro _ ⟨⟨wq, hq⟩, rfl⟩
              go_wp2
              go_ret
              exact ⟨by rw [hst.out]; rfl, hBa.out.trans (hq.mono hBa.out.size)⟩
            | false =>
              rw [hm] at hG2
              have hst : Hid (thTo l (k + 1)) := hnot.out hm
              clear hm hyes hnot
              go_wp2
              refine wp_region_bel (by kernel_rfl) (by kernel_rfl) ?_
              repeat (go_big_quiet_step (first | (go_at_call 23; exact Calls.bel (hG2 _))))
              refine wpQuiet_nil ?_
              rintro _ ⟨⟨wq, hq⟩, rfl⟩
              go_wp2
              refine ⟨⟨k + 1, by omega, by go_num, hst, hBa.out.trans (hq.mono hBa.out.size)⟩, ?_⟩
              simp [intOf]; omega
          · obtain rfl : l.length = k := by omega
            have hki : ¬ (l.length : Int) < (l.length : Int) := by omega
            have hR : Hid (ckE l = 0) := by
              show _ = _
              unfold ckE
              rw [if_neg h16, hall.out, if_pos rfl, thB_no hto.out]
              rfl
            go_wp2
            go_ret
            exact ⟨by rw [hR.out]; rfl, hB.out⟩
end Go.Proofs.Ytfbeilninpapaaa
