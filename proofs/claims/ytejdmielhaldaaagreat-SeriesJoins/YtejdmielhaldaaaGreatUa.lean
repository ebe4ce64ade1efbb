/- The document's in, odd and do. -/
import Derived.Test.YtejdmielhaldaaaGreatWq
import Derived.Test.YtejdmielhaldaaaGreatSgSi
import Derived.Test.YtejdmielhaldaaaGreatRp
namespace Go.Proofs.YtejdmielhaldaaaGreat
set_option linter.unusedVariables false
open Go.RowKit
set_option maxRecDepth 100000 in
set_option maxHeartbeats 2000000 in
theorem rin35 (v : Value) (ns : List ByteArray) (s : ByteArray) (w : World) (hv : Txs w v ns) (hn : ns.length ≤ 1000000) : Calls Tryz.prog 35 #[v, .string s] w fun e w' => e = .returned (.bool (inB ns s)) ∧ w' = w := by
  obtain ⟨a, c, rfl⟩ := hv.shape
  replace hv : Hid (Txs w (.slice a ns.length c) ns) := hv
  go_enter Tryz.func35, Tryz.ntmps35
  go_wp2
  go_loop [5] (fun i => ∃ k : Nat, k ≤ ns.length ∧ i = .int .i64 k ∧ (∀ j, j < k → ns.getD j ⟨#[]⟩ ≠ s)) (fun i => ns.length - (intOf i).toNat)
  case atStart => exact ⟨0, Nat.zero_le _, rfl, fun j hj => absurd hj (Nat.not_lt_zero _)⟩
  case round =>
    obtain ⟨k, hk, rfl, hno⟩ := hrel
    by_cases hlt : k < ns.length
    · have hki : (k : Int) < (ns.length : Int) := by omega
      obtain ⟨b, o, rfl, x0⟩ := tx_at hv.out k hlt
      by_cases he : ns.getD k ⟨#[]⟩ = s
      · have hg : Hid (inB ns s = true) := inB_at hlt he
        rw [he] at x0
        clear he
        go_wp2
        go_ret
        exact ⟨by rw [hg.out]; rfl, rfl⟩
      · have hst : ∀ j, j < k + 1 → ns.getD j ⟨#[]⟩ ≠ s := fun j hj => by
          by_cases e : j = k
          · subst e; exact he
          · exact hno j (by omega)
        have hne := toList_ne he
        replace hst : Hid _ := hst
        replace hno : Hid _ := hno
        clear he
        generalize ns.getD k ⟨#[]⟩ = m at x0 hne
        go_wp2
        go_round
        case rel => exact ⟨k + 1, by omega, by go_num, hst.out⟩
        case measure => simp [intOf]; omega
    · obtain rfl : k = ns.length := by omega
      have hki : ¬ (ns.length : Int) < (ns.length : Int) := by omega
      have hg : Hid (inB ns s = false) := inB_no hno
      clear hno
      go_wp2
      go_ret
      exact ⟨by rw [hg.out]; rfl, rfl⟩
def oddB (v : Vl) : Bool := decide (v.kind = 2) || decide (v.kind = 3)
theorem odd_unk {p : Pn} (h : IsV p.v) : oddB p.v = unkB p := by
  obtain ⟨t, k, n⟩ := p
  unfold oddB unkB nul nan
  rcases h with ⟨h1, _⟩ | ⟨h1, h2, h3⟩
  · simp only at h1 ⊢; subst h1; simp
  · simp only at h1 h2 h3 ⊢; subst h3; simp
set_option maxRecDepth 100000 in
set_option maxHeartbeats 2000000 in
/-- The document's odd. -/
theorem rodd_any (v : Vl) (w : World) : Calls Tryz.prog 36 #[vlV v] w fun e w' => e = .returned (.bool (oddB v)) ∧ Below w.heap.size w w' := by
  obtain ⟨k, n⟩ := v
  unfold vlV
  obtain ⟨R, hR⟩ : ∃ R, Hid (R = oddB ⟨k, n⟩) := ⟨_, rfl⟩
  rw [← hR.out]
  have hR2 : Hid (R = (decide (k = 2) || decide (k = 3))) := hR.out
  clear hR
  go_enter Tryz.func36, Tryz.ntmps36
  by_cases h2 : k = 2
  · have e : R = true := by rw [hR2.out]; simp [h2]
    clear hR2
    go_wp2
    all_goals
      go_ret
      exact ⟨by rw [e]; rfl, bW0 w _⟩
  · by_cases h3 : k = 3
    · have e : R = true := by rw [hR2.out]; simp [h3]
      clear hR2
      go_wp2
      all_goals
        go_ret
        exact ⟨by rw [e]; rfl, bW0 w _⟩
    · have e : R = false := by rw [hR2.out]; simp [h2, h3]
      clear hR2
      go_wp2
      all_goals
        go_ret
        exact ⟨by rw [e]; simp [h2, h3], bW0 w _⟩
set_option maxRecDepth 100000 in
set_option maxHeartbeats 4000000 in
/-- The document's do of two values. -/
theorem rdo38 (op : ByteArray) (a b : Vl) (w : World) : Calls Tryz.prog 38 #[.string op, vlV a, vlV b] w fun e w' => e = .returned (vlV (doV op [a, b])) ∧ Below w.heap.size w w' := by
  obtain ⟨W, hW⟩ : ∃ W, W = ((w.alloc (vlO a)).alloc (vlO b)).alloc (vlO zer) := ⟨_, rfl⟩
  have hO : Below w.heap.size w W := by rw [hW]; exact (below2 w _ _).alloc (below2 w _ _).size _
  have h6 : VlAt W (w.heap.size + 2) zer := by
    rw [hW]; have := vlNew ((w.alloc (vlO a)).alloc (vlO b)) zer; simpa using this
  have hs : W.heap.size = w.heap.size + 3 := by rw [hW]; simp
  have hB : Below W.heap.size W (W.alloc (.cells #[.int .i64 a.kind, .int .i64 a.n, .int .i64 b.kind, .int .i64 b.n] 25)) := bW0 W _
  have hd := (rdo_any op _ [a, b] _ (row2V W a b) (by simp)).mono (R' := fun e w' => e = .returned (.tuple #[vlV (doV op [a, b]), .int .i64 (doE op [a, b])]) ∧ Below w.heap.size w w' ∧ VlAt w' (w.heap.size + 2) zer) fun e w1 ⟨h, hb1⟩ => by
    have hB1 := hB.trans (hb1.mono hB.size)
    exact ⟨h, hO.trans (hB1.mono hO.size), h6.grow hB1⟩
  generalize doV op [a, b] = R at *
  generalize doE op [a, b] = E at *
  rw [hs] at hd
  subst hW
  clear hB h6 hO hs
  unfold vlO vlV at *
  simp only [zer] at hd
  go_enter Tryz.func38, Tryz.ntmps38
  go_wp2_with (first
    | (go_at_call 25; refine hd.mono ?_; rintro e w1 ⟨rfl, hB1, k6⟩; obtain ⟨c0, c1⟩ := k6.cells; obtain ⟨f0, f1⟩ := k6.frozen; have hz : w.heap.size + 2 < w1.heap.size := k6.lt))
  refine ret_cell (v := R) Tryz.results38 rfl ((vlSet k6).alloc _) ⟨rfl, ?_⟩
  exact (belTwo _ _ hB1 (by omega)).alloc (belTwo _ _ hB1 (by omega)).size _
end Go.Proofs.YtejdmielhaldaaaGreat
